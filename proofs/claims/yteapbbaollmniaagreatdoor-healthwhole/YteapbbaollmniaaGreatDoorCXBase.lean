/- matrix: rows and lists of rows, those that a call makes, and how they are read. -/
import Derived.Test.YteapbbaollmniaaGreatDoorCRefs
import Derived.Deep.RegionHeld3
import Derived.Deep.Light
import Derived.Laws.BytesString
import Derived.Deep.RegionWith
import Derived.Laws.Strings
import Derived.WideShapes
import Derived.Deep.AppendLies
namespace Go.Proofs.YteapbbaollmniaaGreatDoor.C.Mx
open Go.RowKit
/-- v reads as the row l -/
def Row8 (w : World) (v : Value) (l : List Nat) : Prop:=∃ a cap,v = .slice a l.length cap /\ l.length <= 9223372036854775807 /\ (∀ x ∈ l,x < 256) /\ (0 < l.length -> ∃ g o,a = some ⟨g,o,none⟩ /\ g < w.heap.size /\ ∀ j,j < l.length -> w.cell? ⟨g,o + j,none⟩ = some (.int .u8 ((l.getD j 0 : Nat) : Int)))
/-- v reads as the list of rows m -/
def Mat (w : World) (v : Value) (m : List (List Nat)) : Prop:=∃ a cap,v = .slice a m.length cap /\ m.length <= 9223372036854775807 /\ (0 < m.length -> ∃ g o,a = some ⟨g,o,none⟩ /\ g < w.heap.size /\ ∀ j,j < m.length -> ∃ r,w.cell? ⟨g,o + j,none⟩ = some r /\ Row8 w r (m.getD j []))
theorem cell_below {w W : World} {N g i : Nat} {v : Option Value} (hb : Below N w W) (hg : g < N) (h : w.cell? ⟨g,i,none⟩ = v) : W.cell? ⟨g,i,none⟩ = v:=by
 rw [<- h]; simp only [World.cell?,hb.block g hg]
theorem Mat.nil (w : World) : Mat w (.slice none 0 0) []:=⟨none,0,rfl,by simp,fun h=>absurd h (by simp)⟩
theorem Mat.some {w : World} {v : Value} {m : List (List Nat)} (h : Mat w v m) (hp : 0 < m.length) : ∃ g o cap,v = .slice (.some ⟨g,o,none⟩) m.length cap /\ m.length <= 9223372036854775807 /\ g < w.heap.size /\ ∀ j,j < m.length -> ∃ r,w.cell? ⟨g,o + j,none⟩ = .some r /\ Row8 w r (m.getD j []):=by
 obtain ⟨a,cap,h1,h2,h4⟩:=h
 obtain ⟨g,o,rfl,hg,hc⟩:=h4 hp
 exact ⟨g,o,cap,h1,h2,hg,hc⟩
theorem Row8.some {w : World} {v : Value} {l : List Nat} (h : Row8 w v l) (hp : 0 < l.length) : ∃ g o cap,v = .slice (.some ⟨g,o,none⟩) l.length cap /\ l.length <= 9223372036854775807 /\ (∀ x ∈ l,x < 256) /\ g < w.heap.size /\ ∀ j,j < l.length -> w.cell? ⟨g,o + j,none⟩ = .some (.int .u8 ((l.getD j 0 : Nat) : Int)):=by
 obtain ⟨a,cap,h1,h2,h3,h4⟩:=h
 obtain ⟨g,o,rfl,hg,hc⟩:=h4 hp
 exact ⟨g,o,cap,h1,h2,h3,hg,hc⟩
theorem Mat.zero {w : World} {v : Value} {l : List (List Nat)} (h : Mat w v l) (h0 : l.length = 0) : ∃ a cap,v = .slice a 0 cap:=by
 obtain ⟨a,cap,h1,_⟩:=h
 exact ⟨a,cap,by rw [h1,h0]⟩
theorem getD_lt {l : List Nat} (h : ∀ x ∈ l,x < 256) (j : Nat) : l.getD j 0 < 256:=by
 rw [List.getD_eq_getElem?_getD]
 cases hj : l[j]? with
 | none=>simp
 | some x=>exact h x (List.mem_of_getElem? hj)
/-- may these rows be a matrix? -/
def mayM (m : List (List Nat)) : Bool:=decide (1 <= m.length /\ m.length <= 12 /\ 1 <= (m.getD 0 []).length /\ (m.getD 0 []).length <= 12 /\ ∀ j,j < m.length -> (m.getD j []).length = (m.getD 0 []).length)
theorem maySize_t (n : Int) (h1 : 1 <= n) (h2 : n <= 12) (w : World) : Calls Tryz.prog 193 #[.int .i64 n] w fun e w'=>e = .returned (.bool true) /\ w' = w:=by
 have d1 : decide (1 <= n) = true:=by simp; omega
 have d2 : decide (n <= 12) = true:=by simp; omega
 go_enter Tryz.func193,Tryz.ntmps193
 go_wp2_with fail
 go_ret
 exact ⟨rfl,rfl⟩
theorem maySize_f (n : Int) (h : ¬ (1 <= n /\ n <= 12)) (w : World) : Calls Tryz.prog 193 #[.int .i64 n] w fun e w'=>e = .returned (.bool false) /\ w' = w:=by
 by_cases h1 : 1 <= n
 ·have d1 : decide (1 <= n) = true:=by simp; omega
  have d2 : decide (n <= 12) = false:=by simp; omega
  go_enter Tryz.func193,Tryz.ntmps193
  go_wp2_with fail
  go_ret
  exact ⟨rfl,rfl⟩
 ·have d1 : decide (1 <= n) = false:=by simp; omega
  go_enter Tryz.func193,Tryz.ntmps193
  go_wp2_with fail
  go_ret
  exact ⟨rfl,rfl⟩
theorem may_any (v : Value) (m : List (List Nat)) (w : World) (h : Mat w v m) :
  Calls Tryz.prog 192 #[v] w fun e w'=>e = .returned (.bool (mayM m)) /\ w' = w:=by
 by_cases h0 : m.length = 0
 ·obtain ⟨a,cap,rfl⟩:=h.zero h0
  have hr : mayM m = false:=by unfold mayM; simp; omega
  rw [hr]
  go_enter Tryz.func192,Tryz.ntmps192
  go_wp2_with fail
  refine (maySize_f _ (by omega) _).mono ?_
  rintro e w1 ⟨rfl,rfl⟩
  go_wp2_with fail
  go_ret
  exact ⟨rfl,rfl⟩
 ·obtain ⟨g,o,cap,rfl,hml,hg,hrows⟩:=h.some (by omega)
  obtain ⟨r0,c0,hr0⟩:=hrows 0 (by omega)
  obtain ⟨a0,cap0,rfl,hl0,_,_⟩:=hr0
  simp only [Nat.add_zero] at c0
  have b0 : (0 : Int) < (m.length : Int):=by omega
  by_cases h1' : ¬ m.length <= 12
  ·have hr : mayM m = false:=by unfold mayM; simp; omega
   rw [hr]
   go_enter Tryz.func192,Tryz.ntmps192
   go_wp2_with fail
   refine (maySize_f _ (by omega) _).mono ?_
   rintro e w1 ⟨rfl,rfl⟩
   go_wp2_with fail
   go_ret
   exact ⟨rfl,rfl⟩
  have h1 : m.length <= 12:=by omega
  by_cases h2' : ¬ (1 <= (m.getD 0 []).length /\ (m.getD 0 []).length <= 12)
  ·have hr : mayM m = false:=by unfold mayM; simp only [decide_eq_false_iff_not]; exact fun hh=>h2' ⟨hh.2.2.1,hh.2.2.2.1⟩
   rw [hr]
   generalize (m.getD 0 []).length = n0 at *
   go_enter Tryz.func192,Tryz.ntmps192
   go_wp2_with fail
   refine (maySize_t _ (by omega) (by omega) _).mono ?_
   rintro e w1 ⟨rfl,rfl⟩
   go_wp2_with fail
   refine (maySize_f _ (by omega) _).mono ?_
   rintro e w1 ⟨rfl,rfl⟩
   go_wp2_with fail
   go_ret
   exact ⟨rfl,rfl⟩
  have h2 : 1 <= (m.getD 0 []).length /\ (m.getD 0 []).length <= 12:=by omega
  have HM : Hid (mayM m = decide (∀ j,j < m.length -> (m.getD j []).length = (m.getD 0 []).length)):=by
   unfold Hid mayM
   rw [decide_eq_decide]
   exact ⟨fun hh=>hh.2.2.2.2,fun hh=>⟨by omega,h1,h2.1,h2.2,hh⟩⟩
  generalize hn0 : (m.getD 0 []).length = n0 at *
  generalize hn : m.length = n at *
  go_enter Tryz.func192,Tryz.ntmps192
  go_wp2_with fail
  refine (maySize_t _ (by omega) (by omega) _).mono ?_
  rintro e w1 ⟨rfl,rfl⟩
  go_wp2_with fail
  refine (maySize_t _ (by omega) (by omega) _).mono ?_
  rintro e w1 ⟨rfl,rfl⟩
  go_wp2_with fail
  go_loopw [19] (fun vi wr=>wr = w1 /\ ∃ k : Nat,k <= n /\ vi = .int .i64 (k : Int) /\ Hid (∀ j,j < k -> (m.getD j []).length = n0)) (fun vi _=>n - (intOf vi).toNat)
  case atStart=>exact ⟨rfl,0,by omega,rfl,fun j hj=>absurd hj (by omega)⟩
  case round =>
   obtain ⟨rfl,k,hk,rfl,hj⟩:=hrel
   by_cases hlt : k < n
   ·obtain ⟨r,c,hr⟩:=hrows k hlt
    obtain ⟨a1,cap1,rfl,hl1,_,_⟩:=hr
    have d0 : (k : Int) < (n : Int):=by omega
    generalize hnk : (m.getD k []).length = nk at *
    by_cases he : nk = n0
    ·have e0 : ((nk : Int) != (n0 : Int)) = false:=by simp; omega
     go_wp2_with fail
     exact ⟨⟨by simp,k + 1,by omega,rfl,fun j hj'=>by
      by_cases hjk : j < k
      ·exact hj.out j hjk
      ·obtain rfl : j = k:=by omega
       rw [hnk,he]⟩,by simp [intOf]; omega⟩
    ·have e0 : ((nk : Int) != (n0 : Int)) = true:=by simp; omega
     have hr : mayM m = false:=by rw [HM.out,decide_eq_false_iff_not]; exact fun hh=>he (hnk ▸ hh k hlt)
     go_wp2_with fail
     go_ret
     exact ⟨by rw [hr]; rfl,rfl⟩
   ·obtain rfl : k = n:=by omega
    have hr : mayM m = true:=by rw [HM.out,decide_eq_true_iff]; exact hj.out
    go_wp2_with fail
    go_ret
    exact ⟨by rw [hr]; rfl,rfl⟩
end Go.Proofs.YteapbbaollmniaaGreatDoor.C.Mx
namespace Go.Proofs.YteapbbaollmniaaGreatDoor.C.Mx
open Go.RowKit
theorem ext_getD {α : Type} {l1 l2 : List α} (d : α) (hl : l1.length = l2.length) (h : ∀ j,j < l1.length -> l1.getD j d = l2.getD j d) : l1 = l2:=by
 apply List.ext_getElem hl
 intro j h1 h2
 have:=h j h1
 simpa [List.getD_eq_getElem?_getD,List.getElem?_eq_getElem h1,List.getElem?_eq_getElem h2] using this
end Go.Proofs.YteapbbaollmniaaGreatDoor.C.Mx
namespace Go.Proofs.YteapbbaollmniaaGreatDoor.C.Mx
open Go.RowKit
end Go.Proofs.YteapbbaollmniaaGreatDoor.C.Mx
namespace Go.Proofs.YteapbbaollmniaaGreatDoor.C.Mx
open Go.RowKit
end Go.Proofs.YteapbbaollmniaaGreatDoor.C.Mx
namespace Go.Proofs.YteapbbaollmniaaGreatDoor.C.Mx
open Go.RowKit
def tops (n : Nat) (B : Nat -> Nat) (rs : List (List Nat)) : Array Value :=
 ((List.range n).map fun i=>if i < rs.length then Value.slice (some ⟨B i,0,none⟩) (rs.getD i []).length (rs.getD i []).length else .slice none 0 0).toArray
theorem tops_get (n : Nat) (B : Nat -> Nat) (rs : List (List Nat)) (i : Nat) (hi : i < n) : (tops n B rs)[i]? = some (if i < rs.length then Value.slice (some ⟨B i,0,none⟩) (rs.getD i []).length (rs.getD i []).length else .slice none 0 0):=by
 simp [tops,hi]
theorem tops_congr {n : Nat} {B B' : Nat -> Nat} {rs rs' : List (List Nat)} (hl : rs.length = rs'.length) (h : ∀ i,i < rs.length -> B i = B' i /\ (rs.getD i []).length = (rs'.getD i []).length) : tops n B rs = tops n B' rs':=by
 unfold tops
 congr 1
 apply List.map_congr_left
 intro i _
 by_cases hi : i < rs.length
 ·rw [if_pos hi,if_pos (by omega),(h i hi).1,(h i hi).2]
 ·rw [if_neg hi,if_neg (by omega)]
/-- block T holds a list of n rows, of which the first are rs, each in a block of its own, all from base on -/
def RowsAt (base T n : Nat) (w : World) (rs : List (List Nat)) : Prop:=rs.length <= n /\ base <= T /\ ∃ B : Nat -> Nat,Has w T (tops n B rs) 136 /\ ∀ i,i < rs.length -> base <= B i /\ B i ≠ T /\ (∀ j,j < rs.length -> j ≠ i -> B j ≠ B i) /\ Has w (B i) (U8s (rs.getD i [])) 5 /\ (∀ x ∈ rs.getD i [],x < 256)
theorem RowsAt.below {base T n : Nat} {w w' : World} {rs : List (List Nat)} (h : RowsAt base T n w rs) (hb : Below w.heap.size w w') : RowsAt base T n w' rs:=by
 obtain ⟨h1,h2,B,h3,h4⟩:=h
 refine ⟨h1,h2,B,h3.below hb h3.lt,fun i hi=>?_⟩
 obtain ⟨a,b,c,d,e⟩:=h4 i hi
 exact ⟨a,b,c,d.below hb d.lt,e⟩
theorem RowsAt.start {w : World} {base T n : Nat} (hT : T = w.heap.size) (hb : base <= T) : RowsAt base T n (w.alloc (.cells (tops n (fun _=>0) []) 136)) [] :=
 ⟨Nat.zero_le _,hb,fun _=>0,Has.new w T _ 136 hT,fun i hi=>absurd hi (by simp)⟩
theorem tops_push (n : Nat) (B : Nat -> Nat) (rs : List (List Nat)) (g : Nat) (r : List Nat) (hn : rs.length < n) :
  (tops n B rs).setIfInBounds rs.length (.slice (some ⟨g,0,none⟩) r.length r.length) = tops n (fun i=>if i = rs.length then g else B i) (rs ++ [r]):=by
 apply Array.ext_getElem?
 intro i
 rw [Array.getElem?_setIfInBounds]
 by_cases hin : i < n
 ·rw [tops_get n _ _ i hin,tops_get n _ _ i hin]
  by_cases hi : rs.length = i
  ·subst hi
   rw [if_pos rfl,if_pos (by simp [tops]; omega),if_pos (by simp),if_pos rfl]
   simp
  ·rw [if_neg hi]
   by_cases hl : i < rs.length
   ·rw [if_pos hl,if_pos (by simp; omega),if_neg (by omega)]
    have e : (rs ++ [r]).getD i [] = rs.getD i []:=by
     rw [List.getD_eq_getElem?_getD,List.getElem?_append_left hl,<- List.getD_eq_getElem?_getD]
    rw [e]
   ·rw [if_neg hl,if_neg (by simp; omega)]
 ·have e : ∀ (B : Nat -> Nat) (rs : List (List Nat)),(tops n B rs)[i]? = none:=fun B rs=>by
   rw [Array.getElem?_eq_none]; simp [tops]; omega
  rw [e,e,if_neg (by omega)]
theorem getD_app_old {α : Type} (l : List α) (x d : α) (i : Nat) (h : i < l.length) : (l ++ [x]).getD i d = l.getD i d:=by
 rw [List.getD_eq_getElem?_getD,List.getElem?_append_left h,<- List.getD_eq_getElem?_getD]
theorem getD_app_new {α : Type} (l : List α) (x d : α) (i : Nat) (h : i = l.length) : (l ++ [x]).getD i d = x:=by
 subst h; simp
/-- one more row, which a call has made meanwhile -/
theorem RowsAt.push {base T n : Nat} {w0 w1 : World} {rs : List (List Nat)} (h : RowsAt base T n w0 rs) (hb : Below w0.heap.size w0 w1) {g : Nat} {r : List Nat} (hg : w0.heap.size <= g) (hbg : base <= g) (hh : Has w1 g (U8s r) 5) (hr : ∀ x ∈ r,x < 256) (hn : rs.length < n) :
  RowsAt base T n (w1.setCell ⟨T,rs.length,none⟩ (.slice (some ⟨g,0,none⟩) r.length r.length)) (rs ++ [r]):=by
 obtain ⟨h1,h2,B,h3,h4⟩:=h
 have hT:=h3.lt
 refine ⟨by simp; omega,h2,fun i=>if i = rs.length then g else B i,?_,fun i hi=>?_⟩
 ·rw [<- tops_push n B rs g r hn]
  exact (h3.below hb h3.lt).set _ _
 ·simp only [List.length_append,List.length_cons,List.length_nil] at hi
  have hBi : ∀ j,j < rs.length -> B j < w0.heap.size:=fun j hj=>(h4 j hj).2.2.2.1.lt
  by_cases he : i = rs.length
  ·simp only [if_pos he]
   refine ⟨hbg,by omega,fun j hj hji=>?_,?_,?_⟩
   ·simp only [List.length_append,List.length_cons,List.length_nil] at hj
    rw [if_neg (by omega)]
    have:=hBi j (by omega); omega
   ·rw [getD_app_new _ _ _ _ he]; exact hh.other _ _ (by show g ≠ T; omega)
   ·rw [getD_app_new _ _ _ _ he]; exact hr
  ·simp only [if_neg he]
   have hi' : i < rs.length:=by omega
   obtain ⟨a,b,c,d,e⟩:=h4 i hi'
   refine ⟨a,b,fun j hj hji=>?_,?_,?_⟩
   ·simp only [List.length_append,List.length_cons,List.length_nil] at hj
    by_cases hj' : j = rs.length
    ·rw [if_pos hj']; have:=hBi i hi'; omega
    ·rw [if_neg hj']; exact c j (by omega) hji
   ·rw [getD_app_old _ _ _ _ hi']; exact (d.below hb d.lt).other _ _ b
   ·rw [getD_app_old _ _ _ _ hi']; exact e
theorem getD_set_same {α : Type} (l : List α) (x d : α) (i : Nat) (h : i < l.length) : (l.set i x).getD i d = x:=by
 simp [List.getD_eq_getElem?_getD,h]
theorem getD_set_other {α : Type} (l : List α) (x d : α) (i j : Nat) (h : j ≠ i) : (l.set i x).getD j d = l.getD j d:=by
 rw [List.getD_eq_getElem?_getD,List.getElem?_set_ne (by omega),<- List.getD_eq_getElem?_getD]
/-- a row of it, and what becomes of it when it is written -/
theorem RowsAt.row {base T n : Nat} {w : World} {rs : List (List Nat)} (h : RowsAt base T n w rs) (i : Nat) (hi : i < rs.length) :
  ∃ g,w.cell? ⟨T,i,none⟩ = some (.slice (some ⟨g,0,none⟩) (rs.getD i []).length (rs.getD i []).length) /\ base <= g /\ g ≠ T /\ Has w g (U8s (rs.getD i [])) 5 /\ (∀ x ∈ rs.getD i [],x < 256) /\
   (∀ W l,Has W g (U8s l) 5 -> l.length = (rs.getD i []).length -> (∀ x ∈ l,x < 256) -> (∀ b,b ≠ g -> W.heap[b]? = w.heap[b]?) -> RowsAt base T n W (rs.set i l)):=by
 obtain ⟨h1,h2,B,h3,h4⟩:=h
 obtain ⟨a,b,c,d,e⟩:=h4 i hi
 refine ⟨B i,?_,a,b,d,e,fun W l hW hl hx hk=>?_⟩
 ·rw [h3.cell,tops_get _ _ _ _ (by omega),if_pos hi]
 ·refine ⟨by simpa using h1,h2,B,?_,fun j hj=>?_⟩
  ·have e1 : tops n B (rs.set i l) = tops n B rs:=tops_congr (by simp) fun j hj=>by
    refine ⟨rfl,?_⟩
    by_cases hji : j = i
    ·subst hji; rw [getD_set_same _ _ _ _ hi,hl]
    ·rw [getD_set_other _ _ _ _ _ hji]
   rw [e1]
   unfold Has at h3 ⊢
   rw [hk T (Ne.symm b)]; exact h3
  ·simp only [List.length_set] at hj
   obtain ⟨a',b',c',d',e'⟩:=h4 j hj
   refine ⟨a',b',fun k hk' hkj=>c' k (by simpa using hk') hkj,?_,?_⟩
   ·by_cases hji : j = i
    ·subst hji; rw [getD_set_same _ _ _ _ hj]; exact hW
    ·rw [getD_set_other _ _ _ _ _ hji]
     unfold Has at d' ⊢
     rw [hk (B j) (c j hj hji)]; exact d'
   ·by_cases hji : j = i
    ·subst hji; rw [getD_set_same _ _ _ _ hj]; exact hx
    ·rw [getD_set_other _ _ _ _ _ hji]; exact e'
theorem set_lt {l : List Nat} (h : ∀ x ∈ l,x < 256) (j x : Nat) (hx : x < 256) : ∀ y ∈ l.set j x,y < 256:=fun y hy=>by
 rcases List.mem_or_eq_of_mem_set hy with hy | rfl
 ·exact h y hy
 ·exact hx
/-- one number of a row is written -/
theorem RowsAt.write {base T n : Nat} {w : World} {rs : List (List Nat)} (h : RowsAt base T n w rs) (i : Nat) (hi : i < rs.length) :
  ∃ g,w.cell? ⟨T,i,none⟩ = some (.slice (some ⟨g,0,none⟩) (rs.getD i []).length (rs.getD i []).length) /\ base <= g /\ g ≠ T /\
   (∀ j,j < (rs.getD i []).length -> w.cell? ⟨g,j,none⟩ = some (.int .u8 (((rs.getD i []).getD j 0 : Nat) : Int)) /\ w.frozen? ⟨g,j,none⟩ = false) /\
   ∀ j (x : Nat),x < 256 -> RowsAt base T n (w.setCell ⟨g,j,none⟩ (.int .u8 (x : Int))) (rs.set i ((rs.getD i []).set j x)):=by
 obtain ⟨g,h1,h2,h3,h4,h5,h6⟩:=h.row i hi
 refine ⟨g,h1,h2,h3,fun j hj=>⟨by rw [h4.cell,U8s_get _ _ hj],h4.frozen j⟩,fun j x hx=>h6 _ _ ?_ (by simp) (set_lt h5 j x hx) fun b hb=>Below.heap_setCell _ _ _ _ hb⟩
 rw [<- U8s_set]; exact h4.set _ _
theorem RowsAt.mat {base T : Nat} {w : World} {rs : List (List Nat)} (h : RowsAt base T rs.length w rs) (hl : rs.length <= 1000000) (hc : ∀ i,i < rs.length -> (rs.getD i []).length <= 1000000) : Mat w (.slice (some ⟨T,0,none⟩) rs.length rs.length) rs:=by
 have hT : T < w.heap.size:=by obtain ⟨_,_,B,h3,_⟩:=h; exact h3.lt
 refine ⟨_,_,rfl,by omega,fun hp=>⟨T,0,rfl,hT,fun j hj=>?_⟩⟩
 obtain ⟨g,h1,h2,h3,h4,h5,_⟩:=h.row j hj
 refine ⟨_,by rw [Nat.zero_add]; exact h1,_,_,rfl,by have:=hc j hj; omega,h5,fun hp=>⟨g,0,rfl,h4.lt,fun i hi=>?_⟩⟩
 rw [Nat.zero_add,h4.cell,U8s_get _ _ hi]
end Go.Proofs.YteapbbaollmniaaGreatDoor.C.Mx
namespace Go.Proofs.YteapbbaollmniaaGreatDoor.C.Mx
open Go.RowKit
theorem infoRow : (Tryz.prog.info? 136).map (fun i=>(i.zero,i.size,i.bytes)) = some (some (.slice none 0 0),1,24):=by kernel_rfl
theorem infoU8 : (Tryz.prog.info? 5).map (fun i=>(i.zero,i.size,i.bytes)) = some (some (.int .u8 0),1,1):=by kernel_rfl
theorem makes_u8 (n : Nat) (hn : n <= 1000000) (w : World) : (Instr.makeSlice 136 (.int .i64 (n : Int)) (.int .i64 (n : Int))).run Tryz.prog w = .ok (.slice (some ⟨w.heap.size,0,none⟩) n n) (w.alloc (.cells (U8s (List.replicate n 0)) 5)):=by
 have hinfo:=infoU8
 cases hi : Tryz.prog.info? 5 with
 | none=>rw [hi] at hinfo; simp at hinfo
 | some i =>
  rw [hi] at hinfo
  simp only [Option.map_some,Option.some.injEq,Prod.mk.injEq] at hinfo
  obtain ⟨h1,h2,h3⟩:=hinfo
  rw [run_make w 136 5 i (.int .u8 0) Tryz.underlying136 hi h1 .i64 .i64 (n : Int) (n : Int) (by omega) (Int.le_refl _) (by rw [h3]; omega) (by omega)]
  have e : madeCells (Value.int .u8 0).cells (n * 1) = U8s (List.replicate n 0):=by
   apply Array.toList_inj.1
   have hz : (Value.int .u8 0).cells = #[.int .u8 0]:=rfl
   rw [hz,Nat.mul_one]
   apply List.ext_getElem
   ·simp [madeCells,U8s]
   ·intro k h1 h2
    simp [madeCells,U8s,Nat.mod_one]
  rw [h2,Int.toNat_natCast,e]
theorem makes_rows (n : Nat) (hn : n <= 1000000) (w : World) : (Instr.makeSlice 166 (.int .i64 (n : Int)) (.int .i64 (n : Int))).run Tryz.prog w = .ok (.slice (some ⟨w.heap.size,0,none⟩) n n) (w.alloc (.cells (tops n (fun _=>0) []) 136)):=by
 have hinfo:=infoRow
 cases hi : Tryz.prog.info? 136 with
 | none=>rw [hi] at hinfo; simp at hinfo
 | some i =>
  rw [hi] at hinfo
  simp only [Option.map_some,Option.some.injEq,Prod.mk.injEq] at hinfo
  obtain ⟨h1,h2,h3⟩:=hinfo
  rw [run_make w 166 136 i (.slice none 0 0) Tryz.underlying166 hi h1 .i64 .i64 (n : Int) (n : Int) (by omega) (Int.le_refl _) (by rw [h3]; omega) (by omega)]
  have e : madeCells (Value.slice none 0 0).cells (n * 1) = tops n (fun _=>0) []:=by
   apply Array.toList_inj.1
   have hz : (Value.slice none 0 0).cells = #[.slice none 0 0]:=rfl
   rw [hz,Nat.mul_one]
   apply List.ext_getElem
   ·simp [madeCells,tops]
   ·intro k h1 h2
    simp [madeCells,tops,Nat.mod_one]
  rw [h2,Int.toNat_natCast,e]
theorem RowsAt.top {base T n : Nat} {w : World} {rs : List (List Nat)} (h : RowsAt base T n w rs) (k : Nat) (hk : k < n) : T < w.heap.size /\ (∃ v,w.cell? ⟨T,k,none⟩ = some v) /\ w.frozen? ⟨T,k,none⟩ = false:=by
 obtain ⟨h1,h2,B,h3,h4⟩:=h
 exact ⟨h3.lt,⟨_,by rw [h3.cell,tops_get _ _ _ _ hk]⟩,h3.frozen k⟩
set_option maxRecDepth 20000 in
theorem noughts_any (r c : Nat) (hr : r <= 1000000) (hc : c <= 1000000) (w : World) :
  Calls Tryz.prog 156 #[.int .i64 (r : Int),.int .i64 (c : Int)] w fun e w'=>e = .returned (.slice (some ⟨w.heap.size,0,none⟩) r r) /\ RowsAt w.heap.size w.heap.size r w' (List.replicate r (List.replicate c 0)) /\ Below w.heap.size w w':=by
 have hmk:=makes_rows r hr
 go_enter Tryz.func156,Tryz.ntmps156
 go_wp2_with fail
 go_loopw [11] (fun vi wr=>∃ k : Nat,k <= r /\ vi = .int .i64 (k : Int) /\ RowsAt w.heap.size w.heap.size r wr (List.replicate k (List.replicate c 0)) /\ Below w.heap.size w wr) (fun vi _=>r - (intOf vi).toNat)
 case atStart=>exact ⟨0,by omega,rfl,RowsAt.start rfl (Nat.le_refl _),(Below.refl _ _).alloc (Nat.le_refl _) _⟩
 case round =>
  obtain ⟨k,hk,rfl,h1,hb⟩:=hrel
  clear hmk
  have hmk:=makes_u8 c hc
  by_cases hlt : k < r
  ·obtain ⟨q1,⟨x,q2⟩,q3⟩:=h1.top k hlt
   have bA : Below wr.heap.size wr (wr.alloc (.cells (U8s (List.replicate c 0)) 5)):=(Below.refl _ _).alloc (Nat.le_refl _) _
   have c1 : (wr.alloc (.cells (U8s (List.replicate c 0)) 5)).cell? ⟨w.heap.size,k,none⟩ = some x:=cell_below bA q1 q2
   have f1 : (wr.alloc (.cells (U8s (List.replicate c 0)) 5)).frozen? ⟨w.heap.size,k,none⟩ = false:=by
    rw [<- q3]; simp only [World.frozen?,bA.block _ q1]
   have HP : Hid (RowsAt w.heap.size w.heap.size r ((wr.alloc (.cells (U8s (List.replicate c 0)) 5)).setCell ⟨w.heap.size,k,none⟩ (.slice (some ⟨wr.heap.size,0,none⟩) c c)) (List.replicate (k + 1) (List.replicate c 0))):=by
    have:=h1.push bA (Nat.le_refl _) hb.size (Has.new wr _ (U8s (List.replicate c 0)) 5 rfl) (fun x hx=>by rw [List.eq_of_mem_replicate hx]; decide) (by simp; omega)
    simp only [List.length_replicate] at this
    rw [List.replicate_succ']; exact this
   have hfin : Below w.heap.size w ((wr.alloc (.cells (U8s (List.replicate c 0)) 5)).setCell ⟨w.heap.size,k,none⟩ (.slice (some ⟨wr.heap.size,0,none⟩) c c)):=(hb.alloc hb.size _).setCell (Nat.le_refl _) _
   rw [World.setCell_alloc_past _ _ _ _ q1] at HP hfin
   clear h1 q2 q3
   have d0 : (k : Int) < (r : Int):=by omega
   go_wp2_with fail
   exact ⟨⟨k + 1,by omega,rfl,HP.out,hfin⟩,by simp [intOf]; omega⟩
  ·obtain rfl : k = r:=by omega
   go_wp2_with fail
   go_ret
   exact ⟨rfl,h1,hb⟩
end Go.Proofs.YteapbbaollmniaaGreatDoor.C.Mx
namespace Go.Proofs.YteapbbaollmniaaGreatDoor.C.Mx
open Go.RowKit
end Go.Proofs.YteapbbaollmniaaGreatDoor.C.Mx
namespace Go.Proofs.YteapbbaollmniaaGreatDoor.C.Mx
open Go.RowKit
theorem U8s_toList_length (l : List Nat) : (U8s l).toList.length = l.length:=by simp [U8s]
end Go.Proofs.YteapbbaollmniaaGreatDoor.C.Mx
namespace Go.Proofs.YteapbbaollmniaaGreatDoor.C.Mx
open Go.RowKit
end Go.Proofs.YteapbbaollmniaaGreatDoor.C.Mx
namespace Go.Proofs.YteapbbaollmniaaGreatDoor.C.Mx
open Go.RowKit
theorem mayM_facts {m : List (List Nat)} (h : mayM m = true) : 1 <= m.length /\ m.length <= 12 /\ 1 <= (m.getD 0 []).length /\ (m.getD 0 []).length <= 12 /\ ∀ j,j < m.length -> (m.getD j []).length = (m.getD 0 []).length:=of_decide_eq_true h
theorem Mat.may {w : World} {v : Value} {m : List (List Nat)} (h : Mat w v m) (hm : mayM m = true) : ∃ g o cap,v = .slice (.some ⟨g,o,none⟩) m.length cap /\ g < w.heap.size /\
  ∀ j,j < m.length -> ∃ gr q cr,gr < w.heap.size /\ w.cell? ⟨g,o + j,none⟩ = .some (.slice (.some ⟨gr,q,none⟩) (m.getD 0 []).length cr) /\ ∀ i,i < (m.getD 0 []).length -> w.cell? ⟨gr,q + i,none⟩ = .some (.int .u8 (((m.getD j []).getD i 0 : Nat) : Int)) /\ (m.getD j []).getD i 0 < 256:=by
 obtain ⟨f1,f2,f3,f4,f5⟩:=mayM_facts hm
 obtain ⟨g,o,cap,h1,h2,h3,h4⟩:=h.some (by omega)
 refine ⟨g,o,cap,h1,h3,fun j hj=>?_⟩
 obtain ⟨r,h5,h6⟩:=h4 j hj
 obtain ⟨gr,q,cr,rfl,h7,h8,h9,h10⟩:=h6.some (by have:=f5 j hj; omega)
 rw [f5 j hj] at h5 h7 h10
 exact ⟨gr,q,cr,h9,h5,fun i hi=>⟨h10 i hi,getD_lt h8 i⟩⟩
end Go.Proofs.YteapbbaollmniaaGreatDoor.C.Mx
namespace Go.Proofs.YteapbbaollmniaaGreatDoor.C.Mx
open Go.RowKit
/-- a list of rows in new memory -/
def NewMat (base : Nat) (w : World) (v : Value) (m : List (List Nat)) : Prop:=m.length <= 1000000 /\ (∀ i,i < m.length -> (m.getD i []).length <= 1000000) /\ ((v = .slice none 0 0 /\ m = []) \/ ∃ T,v = .slice (some ⟨T,0,none⟩) m.length m.length /\ RowsAt base T m.length w m)
theorem NewMat.mat {base : Nat} {w : World} {v : Value} {m : List (List Nat)} (h : NewMat base w v m) : Mat w v m:=by
 obtain ⟨h1,h2,h3⟩:=h
 rcases h3 with ⟨rfl,rfl⟩ | ⟨T,rfl,k⟩
 ·exact Mat.nil w
 ·exact k.mat h1 h2
theorem NewMat.nil (base : Nat) (w : World) : NewMat base w (.slice none 0 0) []:=⟨by simp,by simp,.inl ⟨rfl,rfl⟩⟩
def grid (c n : Nat) (f : Nat -> Nat -> Nat) : List (List Nat):=(List.range c).map fun j=>(List.range n).map fun i=>f j i
theorem grid_length (c n : Nat) (f : Nat -> Nat -> Nat) : (grid c n f).length = c:=by simp [grid]
theorem grid_row (c n : Nat) (f : Nat -> Nat -> Nat) (j : Nat) (hj : j < c) : (grid c n f).getD j [] = (List.range n).map fun i=>f j i:=by
 simp [grid,List.getD_eq_getElem?_getD,hj]
theorem grid_row_length (c n : Nat) (f : Nat -> Nat -> Nat) (j : Nat) (hj : j < c) : ((grid c n f).getD j []).length = n:=by
 rw [grid_row _ _ _ _ hj]; simp
theorem grid_congr {c n : Nat} {f f' : Nat -> Nat -> Nat} (h : ∀ j i,j < c -> i < n -> f j i = f' j i) : grid c n f = grid c n f':=by
 unfold grid
 apply List.map_congr_left
 intro j hj
 apply List.map_congr_left
 intro i hi
 exact h j i (List.mem_range.1 hj) (List.mem_range.1 hi)
theorem grid_set (c n : Nat) (f : Nat -> Nat -> Nat) (j i x : Nat) (hj : j < c) : (grid c n f).set j (((grid c n f).getD j []).set i x) = grid c n (fun a b=>if a = j /\ b = i then x else f a b):=by
 apply ext_getD []
 ·simp [grid]
 ·intro a ha
  simp only [List.length_set,grid_length] at ha
  rw [grid_row c n _ a ha]
  by_cases haj : a = j
  ·subst haj
   rw [getD_set_same _ _ _ _ (by rw [grid_length]; exact ha),grid_row c n f a ha]
   apply ext_getD 0
   ·simp
   ·intro b hb
    simp only [List.length_set,List.length_map,List.length_range] at hb
    by_cases hbi : b = i
    ·subst hbi
     rw [getD_set_same _ _ _ _ (by simp; exact hb)]
     simp [List.getD_eq_getElem?_getD,hb]
    ·rw [getD_set_other _ _ _ _ _ hbi]
     simp [List.getD_eq_getElem?_getD,hb,hbi]
  ·rw [getD_set_other _ _ _ _ _ haj,grid_row c n f a ha]
   apply List.map_congr_left
   intro b _
   simp [haj]
theorem grid_zero (c n : Nat) : List.replicate c (List.replicate n 0) = grid c n (fun _ _=>0):=by
 unfold grid
 rw [List.map_const',List.map_const']; simp
end Go.Proofs.YteapbbaollmniaaGreatDoor.C.Mx
namespace Go.Proofs.YteapbbaollmniaaGreatDoor.C.Mx
open Go.RowKit
end Go.Proofs.YteapbbaollmniaaGreatDoor.C.Mx
namespace Go.Proofs.YteapbbaollmniaaGreatDoor.C.Mx
open Go.RowKit
end Go.Proofs.YteapbbaollmniaaGreatDoor.C.Mx
