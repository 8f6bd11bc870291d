/- The document's Rows: what it tells, and how it is refused. -/
import Derived.Test.YteapbbaollmniaaGreatDoorCXRows2
namespace Go.Proofs.YteapbbaollmniaaGreatDoor.C.Mx
open Go.RowKit
end Go.Proofs.YteapbbaollmniaaGreatDoor.C.Mx
/- One, and the matrix of a code, of the program: what they tell, and how they are refused. -/
namespace Go.Proofs.YteapbbaollmniaaGreatDoor.C.Mx
open Go.RowKit
def mayC (K N : Int) : Bool:=decide (1 <= K /\ K <= N /\ N <= 12)
theorem mayCode_any (K N : Int) (w : World) :
  Calls Tryz.prog 83 #[.agg #[.int .i64 K,.int .i64 N]] w fun e w'=>e = .returned (.bool (mayC K N)) /\ Below w.heap.size w w':=by
 have hb : Below w.heap.size w (w.alloc (.cells #[.int .i64 K,.int .i64 N] 23)):=(Below.refl _ _).alloc (Nat.le_refl _) _
 by_cases h1 : 1 <= K
 ·have d1 : decide (1 <= K) = true:=by simp; omega
  by_cases h2 : K <= N
  ·have d2 : decide (K <= N) = true:=by simp; omega
   have hr : mayC K N = decide (N <= 12):=by unfold mayC; rw [decide_eq_decide]; omega
   rw [hr]
   go_enter Tryz.func83,Tryz.ntmps83
   go_wp2_with fail
   go_ret
   exact ⟨rfl,hb⟩
  ·have d2 : decide (K <= N) = false:=by simp; omega
   have hr : mayC K N = false:=by unfold mayC; rw [decide_eq_false_iff_not]; omega
   rw [hr]
   go_enter Tryz.func83,Tryz.ntmps83
   go_wp2_with fail
   go_ret
   exact ⟨rfl,hb⟩
 ·have d1 : decide (1 <= K) = false:=by simp; omega
  have hr : mayC K N = false:=by unfold mayC; rw [decide_eq_false_iff_not]; omega
  rw [hr]
  go_enter Tryz.func83,Tryz.ntmps83
  go_wp2_with fail
  go_ret
  exact ⟨rfl,hb⟩
theorem grid_new {base T c n : Nat} {w : World} {f : Nat -> Nat -> Nat} (h : RowsAt base T c w (grid c n f)) (hc : c <= 1000000) (hn : n <= 1000000) : NewMat base w (.slice (some ⟨T,0,none⟩) c c) (grid c n f) :=
 ⟨by rw [grid_length]; exact hc,fun i hi=>by rw [grid_length] at hi; rw [grid_row_length _ _ _ _ hi]; exact hn,.inr ⟨T,by rw [grid_length],by rw [grid_length]; exact h⟩⟩
end Go.Proofs.YteapbbaollmniaaGreatDoor.C.Mx
/- The matrix of a code, of the program. -/
namespace Go.Proofs.YteapbbaollmniaaGreatDoor.C.Mx
open Go.RowKit
def ofVal (K i j : Nat) : Nat:=if i < K then (if j = i then 1 else 0) else Fld.inv (i ^^^ j)
def ofM (K N : Nat) : List (List Nat):=grid N K (ofVal K)
theorem ofVal_lt (K i j : Nat) : ofVal K i j < 256:=by
 unfold ofVal
 split
 ·split <;> decide
 ·exact Fld.inv_lt _
theorem xor_ne {i j : Nat} (h : i ≠ j) : i ^^^ j ≠ 0:=by
 intro h0
 apply h
 have:=congrArg (· ^^^ j) h0
 simpa [Nat.xor_assoc] using this
theorem inv_nz (v : Value) (a : Nat) (ha : a < 256) (h0 : a ≠ 0) (w : World) (hf : IsF w v) : Calls Tryz.prog 157 #[v,.int .u8 (a : Int)] w fun e w'=>e = .returned (.tuple #[.int .u8 ((Fld.inv a : Nat) : Int),.bool true]) /\ Below w.heap.size w w':=by
 refine (inv_any v a ha w hf).mono ?_
 rintro e w' ⟨rfl,h⟩
 rw [if_neg h0,decide_eq_true h0]
 exact ⟨rfl,h⟩
/-- what stands behind i rows, and j numbers of row i -/
def ofAt (K i j a b : Nat) : Nat:=if a < i \/ (a = i /\ b < j) then ofVal K a b else 0
set_option maxRecDepth 20000 in
set_option maxHeartbeats 1000000 in
theorem of_t (K N : Nat) (h1 : 1 <= K) (h2 : K <= N) (h3 : N <= 12) (w : World) :
  Calls Tryz.prog 109 #[.agg #[.int .i64 (K : Int),.int .i64 (N : Int)]] w fun e w'=>∃ r,e = .returned (.tuple #[r,.int .i64 0]) /\ NewMat w.heap.size w' r (ofM K N) /\ Below w.heap.size w w':=by
 have hm : mayC (K : Int) (N : Int) = true:=by unfold mayC; rw [decide_eq_true_iff]; omega
 have hb0 : Below w.heap.size w (w.alloc (.cells #[.int .i64 (K : Int),.int .i64 (N : Int)] 23)):=(Below.refl _ _).alloc (Nat.le_refl _) _
 have hB0 : Has (w.alloc (.cells #[.int .i64 (K : Int),.int .i64 (N : Int)] 23)) w.heap.size #[.int .i64 (K : Int),.int .i64 (N : Int)] 23:=Has.new w _ _ _ rfl
 go_enter Tryz.func109,Tryz.ntmps109
 go_wp2_with fail
 refine (mayCode_any (K : Int) (N : Int) _).mono ?_
 rintro e w1 ⟨rfl,b1⟩
 rw [hm]
 have hB1:=hB0.below b1 hB0.lt
 have b1':=belowCall hb0 b1
 clear hB0 hb0 b1
 go_wp2_with fail
 refine (new_any w1).mono ?_
 rintro e w2 ⟨rfl,hF,b2⟩
 have hB2:=hB1.below b2 hB1.lt
 have b2':=belowCall b1' b2
 have kK : w2.cell? ⟨w.heap.size,0,none⟩ = some (.int .i64 (K : Int)):=hB2.cell 0
 have kN : w2.cell? ⟨w.heap.size,1,none⟩ = some (.int .i64 (N : Int)):=hB2.cell 1
 generalize hfb : w1.heap.size = fb at *
 have HF2 : Hid (Has w2 fb FC 261):=hF
 clear hF b2 hB1 b1'
 go_wp2_with fail
 refine (noughts_any N K (by omega) (by omega) w2).mono ?_
 rintro e w3 ⟨rfl,hR,b3⟩
 rw [grid_zero] at hR
 go_wp2_with fail
 clear kK kN
 generalize hTT : w2.heap.size = T at *
 have hwT : w.heap.size <= T:=by rw [<- hTT]; exact b2'.size
 have KK : Hid (∀ W,Below T w2 W -> W.cell? ⟨w.heap.size,0,none⟩ = some (.int .i64 (K : Int)) /\ IsF W (.pointer (some ⟨fb,0,none⟩))):=fun W hW=>by
  rw [<- hTT] at hW
  have h:=hB2.below hW hB2.lt
  exact ⟨h.cell 0,.inr ⟨fb,rfl,HF2.out.below hW HF2.out.lt⟩⟩
 go_loopw [20] (fun vi wr=>∃ k : Nat,k <= N /\ vi = .int .i64 (k : Int) /\ Hid (RowsAt T T N wr (grid N K (ofAt K k 0))) /\ Below T w2 wr) (fun vi _=>N - (intOf vi).toNat)
 case atStart=>exact ⟨0,by omega,rfl,by unfold Hid; rw [grid_congr (f':=fun _ _=>0) (fun j i _ _=>by simp [ofAt])]; exact hR,b3⟩
 case round =>
  obtain ⟨k,hk,rfl,hW,hb⟩:=hrel
  obtain ⟨wo,hwo⟩ : ∃ wo,wo = wr:=⟨_,rfl⟩
  subst hwo
  clear hR b3
  by_cases hlt : k < N
  ·obtain ⟨gw,a1,a2,a3,a4,a5⟩:=hW.out.write k (by rw [grid_length]; exact hlt)
   rw [grid_row_length _ _ _ _ hlt] at a1 a4
   have kK:=(KK.out wo hb).1
   have d0 : (k : Int) < (N : Int):=by omega
   by_cases hkK : k < K
   ·obtain ⟨a6,a7⟩:=a4 k hkK
    have HA : Hid (RowsAt T T N (wo.setCell ⟨gw,k,none⟩ (.int .u8 ((1 : Nat) : Int))) (grid N K (ofAt K (k + 1) 0))):=by
     have:=a5 k 1 (by decide)
     rw [grid_set _ _ _ _ _ _ hlt] at this
     unfold Hid
     rw [grid_congr (f':=fun a b=>if a = k /\ b = k then 1 else ofAt K k 0 a b)]
     ·exact this
     ·intro a b ha hb
      simp only [ofAt,ofVal]
      by_cases e1 : a = k /\ b = k
      ·rw [if_pos e1,if_pos (show a < k + 1 \/ a = k + 1 /\ b < 0 by omega),if_pos (show a < K by omega),if_pos (show b = a by omega)]
      ·rw [if_neg e1]
       by_cases e2 : a < k
       ·rw [if_pos (show a < k + 1 \/ a = k + 1 /\ b < 0 by omega),if_pos (show a < k \/ a = k /\ b < 0 by omega)]
       ·rw [if_neg (show ¬ (a < k \/ a = k /\ b < 0) by omega)]
        by_cases e3 : a = k
        ·rw [if_pos (show a < k + 1 \/ a = k + 1 /\ b < 0 by omega),if_pos (show a < K by omega),if_neg (show ¬ b = a by omega)]
        ·rw [if_neg (show ¬ (a < k + 1 \/ a = k + 1 /\ b < 0) by omega)]
    have hfin : Below T w2 (wo.setCell ⟨gw,k,none⟩ (.int .u8 ((1 : Nat) : Int))):=hb.setCell a2 _
    simp only [Int.cast_ofNat_Int] at HA hfin
    clear a4 a5 hW
    generalize ((grid N K (ofAt K k 0)).getD k []).getD k 0 = y at *
    have d1 : decide ((k : Int) < (K : Int)) = true:=by simp; omega
    have d2 : (k : Int) < (K : Int):=by omega
    go_wp2_with fail
    exact ⟨⟨k + 1,by omega,rfl,HA,hfin⟩,by simp [intOf]; omega⟩
   ·have d1 : decide ((k : Int) < (K : Int)) = false:=by simp; omega
    clear a4 a5 a2 a3
    have A1:=a1
    go_wp2_with fail
    go_loopw [34] (fun vj W=>∃ j : Nat,j <= K /\ vj = .int .i64 (j : Int) /\ Hid (RowsAt T T N W (grid N K (ofAt K k j))) /\ W.cell? ⟨T,k,none⟩ = some (.slice (some ⟨gw,0,none⟩) K K) /\ Below T w2 W) (fun vj _=>K - (intOf vj).toNat)
    case atStart=>exact ⟨0,by omega,rfl,hW,A1,hb⟩
    case round =>
     obtain ⟨j,hj,rfl,hV,hT,hbV⟩:=hrel
     clear hW hb a1 A1 kK
     by_cases hjK : j < K
     ·have hF:=(KK.out _ hbV).2
      have HFF : Hid (IsF wr (.pointer (some ⟨fb,0,none⟩))):=hF
      clear hF
      have hxl : k ^^^ j < 256:=Nat.xor_lt_two_pow (n:=8) (by omega) (by omega)
      have hx0 : k ^^^ j ≠ 0:=xor_ne (by omega)
      have X1 : bits .xor .i64 (k : Int) (j : Int) = ((k ^^^ j : Nat) : Int):=i64_xor_nat k j (by omega) (by omega)
      have X2 : IntKind.u8.wrap ((k ^^^ j : Nat) : Int) = ((k ^^^ j : Nat) : Int):=by rw [IntKind.wrap_u8']; omega
      have HV : Hid (ofVal K k j = Fld.inv (k ^^^ j)):=by unfold Hid ofVal; rw [if_neg hkK]
      generalize hxx : k ^^^ j = x at *
      have d2 : (j : Int) < (K : Int):=by omega
      go_wp2_with fail
      refine (inv_nz _ x hxl hx0 wr HFF.out).mono ?_
      rintro e w4 ⟨rfl,b4⟩
      obtain ⟨gx,a1,a2,a3,a4,a5⟩:=(hV.out.below b4).write k (by rw [grid_length]; exact hlt)
      have hT4:=cell_below b4 (World.block_lt_of_cell? (h:=hT)) hT
      rw [grid_row_length _ _ _ _ hlt] at a1 a4
      rw [hT4] at a1
      simp only [Option.some.injEq,Value.slice.injEq,Addr.mk.injEq,and_true] at a1
      obtain rfl:=a1
      obtain ⟨a6,a7⟩:=a4 j hjK
      have HA : Hid (RowsAt T T N (w4.setCell ⟨gw,j,none⟩ (.int .u8 ((Fld.inv x : Nat) : Int))) (grid N K (ofAt K k (j + 1)))):=by
       have:=a5 j (Fld.inv x) (Fld.inv_lt _)
       rw [grid_set _ _ _ _ _ _ hlt] at this
       unfold Hid
       rw [grid_congr (f':=fun a b=>if a = k /\ b = j then Fld.inv x else ofAt K k j a b)]
       ·exact this
       ·intro a b ha hb
        by_cases e1 : a = k /\ b = j
        ·rw [if_pos e1,<- HV.out]
         simp only [ofAt]
         rw [if_pos (show a < k \/ a = k /\ b < j + 1 by omega),e1.1,e1.2]
        ·rw [if_neg e1]
         simp only [ofAt]
         by_cases e2 : a < k \/ a = k /\ b < j
         ·rw [if_pos e2,if_pos (show a < k \/ a = k /\ b < j + 1 by omega)]
         ·rw [if_neg e2,if_neg (show ¬ (a < k \/ a = k /\ b < j + 1) by omega)]
      have hb4 : Below T w2 w4:=hbV.trans (b4.mono (Nat.le_trans (by omega) hbV.size))
      have hfin : Below T w2 (w4.setCell ⟨gw,j,none⟩ (.int .u8 ((Fld.inv x : Nat) : Int))):=hb4.setCell a2 _
      have hTf : Hid ((w4.setCell ⟨gw,j,none⟩ (.int .u8 ((Fld.inv x : Nat) : Int))).cell? ⟨T,k,none⟩ = some (.slice (some ⟨gw,0,none⟩) K K)):=by
       unfold Hid; rw [World.cell?_setCell_far _ _ _ _ a3]; exact hT4
      generalize ((grid N K (ofAt K k j)).getD k []).getD j 0 = y at *
      generalize Fld.inv x = ix at *
      clear a4 a5 hV
      go_wp2_with fail
      exact ⟨⟨j + 1,by omega,rfl,HA,hTf.out,hfin⟩,by simp [intOf]; omega⟩
     ·obtain rfl : j = K:=by omega
      go_wp2_with fail
      exact ⟨⟨k + 1,by omega,rfl,by
       unfold Hid
       rw [grid_congr (f':=ofAt j k j) (fun a b _ hb=>by
        simp only [ofAt]
        by_cases e : a < k + 1
        ·rw [if_pos (by omega),if_pos (by omega)]
        ·rw [if_neg (by omega),if_neg (by omega)])]
       exact hV.out,hbV⟩,by simp [intOf]; omega⟩
  ·obtain rfl : k = N:=by omega
   go_wp2_with fail
   go_ret2
   have hW':=hW.out
   rw [grid_congr (f':=ofVal K) (fun a b ha _=>by simp only [ofAt]; rw [if_pos (by omega)])] at hW'
   have hnew:=grid_new hW' (by omega) (by omega)
   have hR2 : RowsAt w.heap.size T k wo (grid k K (ofVal K)):=by
    obtain ⟨p1,p2,B,p3,p4⟩:=hW'
    exact ⟨p1,Nat.le_trans hwT p2,B,p3,fun i hi=>⟨Nat.le_trans hwT (p4 i hi).1,(p4 i hi).2⟩⟩
   exact ⟨_,rfl,grid_new hR2 (by omega) (by omega),b2'.trans (hb.mono hwT)⟩
end Go.Proofs.YteapbbaollmniaaGreatDoor.C.Mx
/- Rows of numbers, and lists of rows, as they lie in memory; what may be a matrix. -/
namespace Go.Proofs.YteapbbaollmniaaGreatDoor.C
open Go.RowKit
/-- v reads as the row l -/
def Row8 (w : World) (v : Value) (l : List Nat) : Prop:=∃ a cap,v = .slice a l.length cap /\ l.length <= 9223372036854775807 /\ (∀ x ∈ l,x < 256) /\ (0 < l.length -> ∃ g o,a = some ⟨g,o,none⟩ /\ g < w.heap.size /\ ∀ j,j < l.length -> w.cell? ⟨g,o + j,none⟩ = some (.int .u8 ((l.getD j 0 : Nat) : Int)))
/-- v reads as the list of rows m -/
def Mat (w : World) (v : Value) (m : List (List Nat)) : Prop:=∃ a cap,v = .slice a m.length cap /\ m.length <= 9223372036854775807 /\ (0 < m.length -> ∃ g o,a = some ⟨g,o,none⟩ /\ g < w.heap.size /\ ∀ j,j < m.length -> ∃ r,w.cell? ⟨g,o + j,none⟩ = some r /\ Row8 w r (m.getD j []))
theorem cell_below {w W : World} {N g i : Nat} {v : Option Value} (hb : Below N w W) (hg : g < N) (h : w.cell? ⟨g,i,none⟩ = v) : W.cell? ⟨g,i,none⟩ = v:=by
 rw [<- h]; simp only [World.cell?,hb.block g hg]
theorem Row8.below {w w' : World} {v : Value} {l : List Nat} (h : Row8 w v l) (hb : Below w.heap.size w w') : Row8 w' v l:=by
 obtain ⟨a,cap,h1,h2,h3,h4⟩:=h
 refine ⟨a,cap,h1,h2,h3,fun hp=>?_⟩
 obtain ⟨g,o,e,hg,hc⟩:=h4 hp
 exact ⟨g,o,e,Nat.lt_of_lt_of_le hg hb.size,fun j hj=>cell_below hb hg (hc j hj)⟩
theorem Mat.below {w w' : World} {v : Value} {m : List (List Nat)} (h : Mat w v m) (hb : Below w.heap.size w w') : Mat w' v m:=by
 obtain ⟨a,cap,h1,h2,h4⟩:=h
 refine ⟨a,cap,h1,h2,fun hp=>?_⟩
 obtain ⟨g,o,e,hg,hc⟩:=h4 hp
 refine ⟨g,o,e,Nat.lt_of_lt_of_le hg hb.size,fun j hj=>?_⟩
 obtain ⟨r,c,hr⟩:=hc j hj
 exact ⟨r,cell_below hb hg c,hr.below hb⟩
theorem Mat.nil (w : World) : Mat w (.slice none 0 0) []:=⟨none,0,rfl,by simp,fun h=>absurd h (by simp)⟩
theorem Mat.some {w : World} {v : Value} {m : List (List Nat)} (h : Mat w v m) (hp : 0 < m.length) : ∃ g o cap,v = .slice (.some ⟨g,o,none⟩) m.length cap /\ m.length <= 9223372036854775807 /\ g < w.heap.size /\ ∀ j,j < m.length -> ∃ r,w.cell? ⟨g,o + j,none⟩ = .some r /\ Row8 w r (m.getD j []):=by
 obtain ⟨a,cap,h1,h2,h4⟩:=h
 obtain ⟨g,o,rfl,hg,hc⟩:=h4 hp
 exact ⟨g,o,cap,h1,h2,hg,hc⟩
theorem Row8.some {w : World} {v : Value} {l : List Nat} (h : Row8 w v l) (hp : 0 < l.length) : ∃ g o cap,v = .slice (.some ⟨g,o,none⟩) l.length cap /\ l.length <= 9223372036854775807 /\ (∀ x ∈ l,x < 256) /\ g < w.heap.size /\ ∀ j,j < l.length -> w.cell? ⟨g,o + j,none⟩ = .some (.int .u8 ((l.getD j 0 : Nat) : Int)):=by
 obtain ⟨a,cap,h1,h2,h3,h4⟩:=h
 obtain ⟨g,o,rfl,hg,hc⟩:=h4 hp
 exact ⟨g,o,cap,h1,h2,h3,hg,hc⟩
theorem Mat.zero {w : World} {v : Value} {l : List (List Nat)} (h : Mat w v l) (h0 : l.length = 0) : ∃ a cap,v = .slice a 0 cap:=by
 obtain ⟨a,cap,h1,_⟩:=h
 exact ⟨a,cap,by rw [h1,h0]⟩
theorem getD_lt {l : List Nat} (h : ∀ x ∈ l,x < 256) (j : Nat) : l.getD j 0 < 256:=by
 rw [List.getD_eq_getElem?_getD]
 cases hj : l[j]? with
 | none=>simp
 | some x=>exact h x (List.mem_of_getElem? hj)
/-- may these rows be a matrix? -/
def mayM (m : List (List Nat)) : Bool:=decide (1 <= m.length /\ m.length <= 255 /\ 1 <= (m.getD 0 []).length /\ (m.getD 0 []).length <= 255 /\ ∀ j,j < m.length -> (m.getD j []).length = (m.getD 0 []).length)
theorem maySize_t (n : Int) (h1 : 1 <= n) (h2 : n <= 255) (w : World) : Calls Tryz.prog 228 #[.int .i64 n] w fun e w'=>e = .returned (.bool true) /\ w' = w:=by
 have d1 : decide (1 <= n) = true:=by simp; omega
 have d2 : decide (n <= 255) = true:=by simp; omega
 go_enter Tryz.func228,Tryz.ntmps228
 go_wp2_with fail
 go_ret
 exact ⟨rfl,rfl⟩
theorem maySize_f (n : Int) (h : ¬ (1 <= n /\ n <= 255)) (w : World) : Calls Tryz.prog 228 #[.int .i64 n] w fun e w'=>e = .returned (.bool false) /\ w' = w:=by
 by_cases h1 : 1 <= n
 ·have d1 : decide (1 <= n) = true:=by simp; omega
  have d2 : decide (n <= 255) = false:=by simp; omega
  go_enter Tryz.func228,Tryz.ntmps228
  go_wp2_with fail
  go_ret
  exact ⟨rfl,rfl⟩
 ·have d1 : decide (1 <= n) = false:=by simp; omega
  go_enter Tryz.func228,Tryz.ntmps228
  go_wp2_with fail
  go_ret
  exact ⟨rfl,rfl⟩
theorem may_any (v : Value) (m : List (List Nat)) (w : World) (h : Mat w v m) :
  Calls Tryz.prog 208 #[v] w fun e w'=>e = .returned (.bool (mayM m)) /\ w' = w:=by
 by_cases h0 : m.length = 0
 ·obtain ⟨a,cap,rfl⟩:=h.zero h0
  have hr : mayM m = false:=by unfold mayM; simp; omega
  rw [hr]
  go_enter Tryz.func208,Tryz.ntmps208
  go_wp2_with fail
  refine (maySize_f _ (by omega) _).mono ?_
  rintro e w1 ⟨rfl,rfl⟩
  go_wp2_with fail
  go_ret
  exact ⟨rfl,rfl⟩
 ·obtain ⟨g,o,cap,rfl,hml,hg,hrows⟩:=h.some (by omega)
  obtain ⟨r0,c0,hr0⟩:=hrows 0 (by omega)
  obtain ⟨a0,cap0,rfl,hl0,_,_⟩:=hr0
  simp only [Nat.add_zero] at c0
  have b0 : (0 : Int) < (m.length : Int):=by omega
  by_cases h1' : ¬ m.length <= 255
  ·have hr : mayM m = false:=by unfold mayM; simp; omega
   rw [hr]
   go_enter Tryz.func208,Tryz.ntmps208
   go_wp2_with fail
   refine (maySize_f _ (by omega) _).mono ?_
   rintro e w1 ⟨rfl,rfl⟩
   go_wp2_with fail
   go_ret
   exact ⟨rfl,rfl⟩
  have h1 : m.length <= 255:=by omega
  by_cases h2' : ¬ (1 <= (m.getD 0 []).length /\ (m.getD 0 []).length <= 255)
  ·have hr : mayM m = false:=by unfold mayM; simp only [decide_eq_false_iff_not]; exact fun hh=>h2' ⟨hh.2.2.1,hh.2.2.2.1⟩
   rw [hr]
   generalize (m.getD 0 []).length = n0 at *
   go_enter Tryz.func208,Tryz.ntmps208
   go_wp2_with fail
   refine (maySize_t _ (by omega) (by omega) _).mono ?_
   rintro e w1 ⟨rfl,rfl⟩
   go_wp2_with fail
   refine (maySize_f _ (by omega) _).mono ?_
   rintro e w1 ⟨rfl,rfl⟩
   go_wp2_with fail
   go_ret
   exact ⟨rfl,rfl⟩
  have h2 : 1 <= (m.getD 0 []).length /\ (m.getD 0 []).length <= 255:=by omega
  have HM : Hid (mayM m = decide (∀ j,j < m.length -> (m.getD j []).length = (m.getD 0 []).length)):=by
   unfold Hid mayM
   rw [decide_eq_decide]
   exact ⟨fun hh=>hh.2.2.2.2,fun hh=>⟨by omega,h1,h2.1,h2.2,hh⟩⟩
  generalize hn0 : (m.getD 0 []).length = n0 at *
  generalize hn : m.length = n at *
  go_enter Tryz.func208,Tryz.ntmps208
  go_wp2_with fail
  refine (maySize_t _ (by omega) (by omega) _).mono ?_
  rintro e w1 ⟨rfl,rfl⟩
  go_wp2_with fail
  refine (maySize_t _ (by omega) (by omega) _).mono ?_
  rintro e w1 ⟨rfl,rfl⟩
  go_wp2_with fail
  go_loopw [19] (fun vi wr=>wr = w1 /\ ∃ k : Nat,k <= n /\ vi = .int .i64 (k : Int) /\ Hid (∀ j,j < k -> (m.getD j []).length = n0)) (fun vi _=>n - (intOf vi).toNat)
  case atStart=>exact ⟨rfl,0,by omega,rfl,fun j hj=>absurd hj (by omega)⟩
  case round =>
   obtain ⟨rfl,k,hk,rfl,hj⟩:=hrel
   by_cases hlt : k < n
   ·obtain ⟨r,c,hr⟩:=hrows k hlt
    obtain ⟨a1,cap1,rfl,hl1,_,_⟩:=hr
    have d0 : (k : Int) < (n : Int):=by omega
    generalize hnk : (m.getD k []).length = nk at *
    by_cases he : nk = n0
    ·have e0 : ((nk : Int) != (n0 : Int)) = false:=by simp; omega
     go_wp2_with fail
     exact ⟨⟨by simp,k + 1,by omega,rfl,fun j hj'=>by
      by_cases hjk : j < k
      ·exact hj.out j hjk
      ·obtain rfl : j = k:=by omega
       rw [hnk,he]⟩,by simp [intOf]; omega⟩
    ·have e0 : ((nk : Int) != (n0 : Int)) = true:=by simp; omega
     have hr : mayM m = false:=by rw [HM.out,decide_eq_false_iff_not]; exact fun hh=>he (hnk ▸ hh k hlt)
     go_wp2_with fail
     go_ret
     exact ⟨by rw [hr]; rfl,rfl⟩
   ·obtain rfl : k = n:=by omega
    have hr : mayM m = true:=by rw [HM.out,decide_eq_true_iff]; exact hj.out
    go_wp2_with fail
    go_ret
    exact ⟨by rw [hr]; rfl,rfl⟩
end Go.Proofs.YteapbbaollmniaaGreatDoor.C
/- Rows as strings; the document's Same. -/
namespace Go.Proofs.YteapbbaollmniaaGreatDoor.C
open Go.RowKit
theorem ext_getD {α : Type} {l1 l2 : List α} (d : α) (hl : l1.length = l2.length) (h : ∀ j,j < l1.length -> l1.getD j d = l2.getD j d) : l1 = l2:=by
 apply List.ext_getElem hl
 intro j h1 h2
 have:=h j h1
 simpa [List.getD_eq_getElem?_getD,List.getElem?_eq_getElem h1,List.getElem?_eq_getElem h2] using this
def ofBs (l : List Nat) : ByteArray:=⟨(l.map fun x=>x.toUInt8).toArray⟩
theorem fold_push (l : List Nat) (acc : ByteArray) : (l.map fun x : Nat=>(x : Int)).foldl (fun r n=>r.push (UInt8.ofNat n.toNat)) acc = ⟨acc.data ++ (l.map fun x=>x.toUInt8).toArray⟩:=by
 induction l generalizing acc with
 | nil=>simp
 | cons x l ih =>
  simp only [List.map_cons,List.foldl_cons,ih,Int.toNat_natCast]
  have : (acc.push (UInt8.ofNat x)).data = acc.data.push (UInt8.ofNat x):=rfl
  rw [this]
  congr 1
  apply Array.toList_inj.1
  simp
theorem toNat8 {x : Nat} (h : x < 256) : x.toUInt8.toNat = x:=by
 show x % 256 = x
 omega
theorem ofBs_inj {a b : List Nat} (ha : ∀ x ∈ a,x < 256) (hb : ∀ x ∈ b,x < 256) (h : ofBs a = ofBs b) : a = b:=by
 have h1 : (a.map fun x=>x.toUInt8) = (b.map fun x=>x.toUInt8):=by
  have:=congrArg (fun s : ByteArray=>s.data.toList) h
  simpa [ofBs] using this
 have h2:=congrArg (List.map UInt8.toNat) h1
 simp only [List.map_map] at h2
 have e : ∀ l : List Nat,(∀ x ∈ l,x < 256) -> l.map (UInt8.toNat ∘ fun x=>x.toUInt8) = l:=fun l hl=>by
  conv=>rhs; rw [<- List.map_id l]
  apply List.map_congr_left
  intro x hx
  exact toNat8 (hl x hx)
 rwa [e a ha,e b hb] at h2
theorem str_ne {a b : List Nat} (ha : ∀ x ∈ a,x < 256) (hb : ∀ x ∈ b,x < 256) (h : a ≠ b) : ((ofBs a).toList == (ofBs b).toList) = false:=by
 rw [beq_eq_false_iff_ne]
 intro e
 rw [ByteArray.toList_eq,ByteArray.toList_eq] at e
 exact h (ofBs_inj ha hb (Go.WideShapes.bytes_inj e))
theorem str_eq (a : ByteArray) : (a.toList == a.toList) = true:=by simp
theorem conv_row {w : World} {v : Value} {l : List Nat} (h : Row8 w v l) : (convert 136 9 v).run Tryz.prog w = .ok (.string (ofBs l)) w:=by
 obtain ⟨a,cap,rfl,hl,hx,hc⟩:=h
 by_cases hp : 0 < l.length
 ·obtain ⟨g,o,rfl,hg,hd⟩:=hc hp
  have hld : (loadCells ⟨g,o,none⟩ l.length).run Tryz.prog w = .ok ((l.map fun x : Nat=>(x : Int)).map (Value.int .u8)).toArray w:=by
   have h2:=run_loadCells_list (P:=Tryz.prog) w ⟨g,o,none⟩ (U8s l).toList (fun j v hv=>by
    have hj : j < l.length:=by have:=(List.getElem?_eq_some_iff.1 hv).1; simpa [U8s] using this
    rw [Addr.add_mid,hd j hj,<- hv]
    simp [U8s,List.getD_eq_getElem?_getD,List.getElem?_eq_getElem hj])
   rw [Array.length_toList,U8s_size] at h2
   rw [h2]
   simp [U8s]
  rw [run_convert_bytes_string w 136 9 5 _ _ _ Tryz.underlying136 Tryz.underlying5 Tryz.underlying9,run_bytesToString w _ _ _ _ hld,fold_push]
  simp [ofBs]
 ·have h0 : l = []:=List.eq_nil_of_length_eq_zero (by omega)
  subst h0
  cases a with
  | none=>exact run_convert_bytes_string w 136 9 5 _ _ _ Tryz.underlying136 Tryz.underlying5 Tryz.underlying9
  | some a =>
   have hld : (loadCells a ([] : List Nat).length).run Tryz.prog w = .ok (([] : List Int).map (Value.int .u8)).toArray w:=run_loadCells_list (P:=Tryz.prog) w a [] (by simp)
   rw [run_convert_bytes_string w 136 9 5 _ _ _ Tryz.underlying136 Tryz.underlying5 Tryz.underlying9,run_bytesToString w _ _ _ _ hld]
   rfl
end Go.Proofs.YteapbbaollmniaaGreatDoor.C
