/- The contract of Add: the bytes are added; of what was there nothing but the hash changes. -/
import Derived.Test.YteapbbaollmniaaGreatDoorHHash
import Derived.Deep.RegionWith
import Derived.Laws.MakeOwn
import Derived.Laws.BytesString
import Derived.Lib.ItoaLen
import Derived.Lib.AppendIntMem
namespace Go.Proofs.YteapbbaollmniaaGreatDoor.H
open Go.RowKit
theorem feed_lit (s : Sha.S8) (hs : s.ok) (rv : Value) (l : List Nat) (hl : l.length < 64) (hlb : ∀ x ∈ l,x < 256) (str : ByteArray) (hstr : str.size <= 1000000000000) (w : World) (ht : Tabs w) (hv : IsBytes w rv l) :
  Calls Tryz.prog 131 #[.agg #[.int .u32 (s.a : Int),.int .u32 (s.b : Int),.int .u32 (s.c : Int),.int .u32 (s.d : Int),.int .u32 (s.e : Int),.int .u32 (s.f : Int),.int .u32 (s.g : Int),.int .u32 (s.h : Int)],rv,.string str] w fun e w'=>∃ (nb : Nat) (cs : List Nat) (m : Sha.S8) (k : Nat),
   e = .returned (.tuple #[.agg #[.int .u32 (m.a : Int),.int .u32 (m.b : Int),.int .u32 (m.c : Int),.int .u32 (m.d : Int),.int .u32 (m.e : Int),.int .u32 (m.f : Int),.int .u32 (m.g : Int),.int .u32 (m.h : Int)],.slice (some ⟨nb,0,none⟩) k k]) /\ Hid (m = Sha.eat s (l ++ bs str)) /\ Hid (k = (Sha.left (l ++ bs str)).length)
   /\ w.heap.size <= nb /\ Has w' nb (U8s cs) 249 /\ Hid (k <= cs.length) /\ Hid (cs.take k = Sha.left (l ++ bs str)) /\ Below w.heap.size w w':=by
 refine (feed_any s hs rv l hl hlb str hstr w ht hv).mono ?_
 rintro e w' ⟨nb,cs,rfl,h1,h2,h3,h4,h5⟩
 exact ⟨nb,cs,_,_,rfl,rfl,rfl,h1,h2,h3,h4,h5⟩
theorem Has.eqv {w : World} {b : Nat} {cs cs' : Array Value} {t : TypeId} (h : Has w b cs t) (e : cs = cs') : Has w b cs' t:=e ▸ h
set_option maxRecDepth 20000 in
set_option maxHeartbeats 1000000 in
theorem add_any (w : World) (ht : Tabs w) (b : Nat) (l : List Nat) (hlb : ∀ x ∈ l,x < 256) (h : IsHash w b l) (s : ByteArray) (hs : l.length + s.size <= 1000000000000) :
  Calls Tryz.prog 81 #[.pointer (some ⟨b,0,none⟩),.string s] w fun e w'=>e = .returned (.int .i64 0) /\ IsHash w' b (l ++ bs s) /\ Only b w w':=by
 obtain ⟨rv,h1,h2⟩:=h
 have hfe : Hid (∀ W,Tabs W -> IsBytes W rv (Sha.left l) -> _):=fun W hT hv=>feed_lit (Sha.eat Sha.init l) (Sha.eat_ok _ _ Sha.init_ok) rv (Sha.left l) (by rw [Sha.left_length]; omega) (Sha.left_lt _ hlb) s (by omega) W hT hv
 have hea : Hid (Sha.eat (Sha.eat Sha.init l) (Sha.left l ++ bs s) = Sha.eat Sha.init (l ++ bs s)):=Sha.eat_app _ _ _
 have hle : Hid (Sha.left (Sha.left l ++ bs s) = Sha.left (l ++ bs s)):=Sha.left_app _ _
 have c0 : w.cell? ⟨b,0,none⟩ = some (.int .u32 ((Sha.eat Sha.init l).a : Int)):=h1.cell 0
 have c1 : w.cell? ⟨b,1,none⟩ = some (.int .u32 ((Sha.eat Sha.init l).b : Int)):=h1.cell 1
 have c2 : w.cell? ⟨b,2,none⟩ = some (.int .u32 ((Sha.eat Sha.init l).c : Int)):=h1.cell 2
 have c3 : w.cell? ⟨b,3,none⟩ = some (.int .u32 ((Sha.eat Sha.init l).d : Int)):=h1.cell 3
 have c4 : w.cell? ⟨b,4,none⟩ = some (.int .u32 ((Sha.eat Sha.init l).e : Int)):=h1.cell 4
 have c5 : w.cell? ⟨b,5,none⟩ = some (.int .u32 ((Sha.eat Sha.init l).f : Int)):=h1.cell 5
 have c6 : w.cell? ⟨b,6,none⟩ = some (.int .u32 ((Sha.eat Sha.init l).g : Int)):=h1.cell 6
 have c7 : w.cell? ⟨b,7,none⟩ = some (.int .u32 ((Sha.eat Sha.init l).h : Int)):=h1.cell 7
 have c8 : w.cell? ⟨b,8,none⟩ = some rv:=h1.cell 8
 have c9 : w.cell? ⟨b,9,none⟩ = some (.int .i64 (l.length : Int)):=h1.cell 9
 generalize Sha.eat Sha.init l = t at *
 go_enter Tryz.func81,Tryz.ntmps81
 go_wp2
 go_region_with (go_at_call 131; refine (hfe.out _ (by exact ⟨ht.sq,ht.cu⟩) (by exact h2)).mono ?_; rintro e w1 ⟨nb,cs,m,k,rfl,hm,hk,hnb,hnh,hkc,hck,hbl⟩; have q : Has w1 b _ 210:=h1.drew.below hbl h1.drew.lt; have d0 : w1.cell? ⟨b,0,none⟩ = some (.int .u32 (t.a : Int)):=q.cell 0; have d1 : w1.cell? ⟨b,1,none⟩ = some (.int .u32 (t.b : Int)):=q.cell 1; have d2 : w1.cell? ⟨b,2,none⟩ = some (.int .u32 (t.c : Int)):=q.cell 2; have d3 : w1.cell? ⟨b,3,none⟩ = some (.int .u32 (t.d : Int)):=q.cell 3; have d4 : w1.cell? ⟨b,4,none⟩ = some (.int .u32 (t.e : Int)):=q.cell 4; have d5 : w1.cell? ⟨b,5,none⟩ = some (.int .u32 (t.f : Int)):=q.cell 5; have d6 : w1.cell? ⟨b,6,none⟩ = some (.int .u32 (t.g : Int)):=q.cell 6; have d7 : w1.cell? ⟨b,7,none⟩ = some (.int .u32 (t.h : Int)):=q.cell 7; have d8 : w1.cell? ⟨b,8,none⟩ = some rv:=q.cell 8; have d9 : w1.cell? ⟨b,9,none⟩ = some (.int .i64 (l.length : Int)):=q.cell 9; have f0:=q.frozen 0; have f1:=q.frozen 1; have f2:=q.frozen 2; have f3:=q.frozen 3; have f4:=q.frozen 4; have f5:=q.frozen 5; have f6:=q.frozen 6; have f7:=q.frozen 7; have f8:=q.frozen 8; have f9:=q.frozen 9)
 all_goals go_wp2
 all_goals go_light
 all_goals go_ret
 all_goals
  have hbw : b < w.heap.size:=h1.lt
  have hnb' : w.heap.size <= nb:=hnb
  have hm' : m = Sha.eat Sha.init (l ++ bs s):=hm.out.trans hea.out
  have hk' : k = (Sha.left (l ++ bs s)).length:=by rw [hk.out,hle.out]
  have hck' : cs.take k = Sha.left (l ++ bs s):=by rw [hck.out,hle.out]
  refine ⟨rfl,⟨.slice (some ⟨nb,0,none⟩) k k,Has.eqv ((((((((((q.set 0 _).set 1 _).set 2 _).set 3 _).set 4 _).set 5 _).set 6 _).set 7 _).set 8 _).set 9 _) ?_,⟨some ⟨nb,0,none⟩,by rw [hk'],fun _=>⟨nb,cs,249,rfl,?_,by rw [<- hk']; exact hkc.out,by rw [<- hk']; exact hck',by decide⟩⟩⟩,?_⟩
  ·rw [<- hm',List.length_append,bs_length]
   simp [hashCells]
  ·iterate 10 refine Has.other ?_ _ _ (show nb ≠ b by omega)
   exact hnh
  ·iterate 10 apply Only.setCell
   exact Only.of_below (w:=w) ⟨hbl.os,hbl.tape,hbl.output,hbl.size,hbl.block⟩
end Go.Proofs.YteapbbaollmniaaGreatDoor.H
/- The contract of a hash's Sum: the digest of all that was added; of what was there nothing changes. -/
namespace Go.Proofs.YteapbbaollmniaaGreatDoor.H
open Go.RowKit
theorem belowCall {w W W' : World} (h : Below w.heap.size w W) (hb : Below W.heap.size W W') : Below w.heap.size w W':=h.trans (hb.mono h.size)
theorem belowAlloc {w W : World} (h : Below w.heap.size w W) (o : Obj) : Below w.heap.size w (W.alloc o):=h.alloc h.size o
theorem belowSet {w W : World} (h : Below w.heap.size w W) (k i : Nat) (v : Value) (hk : w.heap.size <= k) : Below w.heap.size w (W.setCell ⟨k,i,none⟩ v):=h.setCell hk v
theorem Tabs.below' {w W : World} (h : Tabs w) (hb : Below w.heap.size w W) : Tabs W:=⟨h.sq.below hb h.sq.lt,h.cu.below hb h.cu.lt⟩
theorem hashAll {w : World} {b : Nat} {t : Sha.S8} {rv : Value} {n : Nat} {W : World} (h : Has w b (hashCells t rv n) 210) (hb : Below w.heap.size w W) :
  Below w.heap.size w W /\ W.cell? ⟨b,0,none⟩ = some (.int .u32 (t.a : Int)) /\ W.cell? ⟨b,1,none⟩ = some (.int .u32 (t.b : Int)) /\ W.cell? ⟨b,2,none⟩ = some (.int .u32 (t.c : Int)) /\ W.cell? ⟨b,3,none⟩ = some (.int .u32 (t.d : Int)) /\ W.cell? ⟨b,4,none⟩ = some (.int .u32 (t.e : Int)) /\ W.cell? ⟨b,5,none⟩ = some (.int .u32 (t.f : Int)) /\ W.cell? ⟨b,6,none⟩ = some (.int .u32 (t.g : Int)) /\ W.cell? ⟨b,7,none⟩ = some (.int .u32 (t.h : Int)) /\ W.cell? ⟨b,8,none⟩ = some rv /\ W.cell? ⟨b,9,none⟩ = some (.int .i64 (n : Int)):=by
 have h:=h.below hb h.lt
 exact ⟨hb,h.cell 0,h.cell 1,h.cell 2,h.cell 3,h.cell 4,h.cell 5,h.cell 6,h.cell 7,h.cell 8,h.cell 9⟩
set_option maxRecDepth 20000 in
set_option maxHeartbeats 1000000 in
theorem hashSum_any (w : World) (ht : Tabs w) (b : Nat) (l : List Nat) (hlb : ∀ x ∈ l,x < 256) (h : IsHash w b l) (hs : l.length <= 900000000000) :
  Calls Tryz.prog 82 #[.pointer (some ⟨b,0,none⟩)] w fun e w'=>e = .returned (.string (ofBs (Sha.digest l))) /\ Below w.heap.size w w':=by
 obtain ⟨rv,h1,h2⟩:=h
 have hlen : (ofBs (Sha.ending l.length)).size <= 1000000000000:=by
  rw [ofBs_size]; simp [Sha.ending,Sha.be8]; have:=Sha.noughts_lt l.length; omega
 have hfe : Hid (∀ W,Tabs W -> IsBytes W rv (Sha.left l) -> _):=fun W hT hv=>feed_lit (Sha.eat Sha.init l) (Sha.eat_ok _ _ Sha.init_ok) rv (Sha.left l) (by rw [Sha.left_length]; omega) (Sha.left_lt _ hlb) (ofBs (Sha.ending l.length)) hlen W hT hv
 have hen : Hid (∀ W,_):=fun W=>ending_any l.length (by omega) W
 have hdi : Hid (∀ m,m = Sha.eat (Sha.eat Sha.init l) (Sha.left l ++ bs (ofBs (Sha.ending l.length))) -> Sha.tell m = Sha.digest l /\ m.ok):=by
  intro m hm
  rw [bs_ofBs _ (Sha.ending_lt _),Sha.eat_app] at hm
  subst hm
  exact ⟨rfl,Sha.eat_ok _ _ Sha.init_ok⟩
 clear hlen
 generalize Sha.eat Sha.init l = t at *
 go_enter Tryz.func82,Tryz.ntmps82
 go_wp2
 go_region_held3 (fun W=>Below w.heap.size w W /\ W.cell? ⟨b,0,none⟩ = some (.int .u32 (t.a : Int)) /\ W.cell? ⟨b,1,none⟩ = some (.int .u32 (t.b : Int)) /\ W.cell? ⟨b,2,none⟩ = some (.int .u32 (t.c : Int)) /\ W.cell? ⟨b,3,none⟩ = some (.int .u32 (t.d : Int)) /\ W.cell? ⟨b,4,none⟩ = some (.int .u32 (t.e : Int)) /\ W.cell? ⟨b,5,none⟩ = some (.int .u32 (t.f : Int)) /\ W.cell? ⟨b,6,none⟩ = some (.int .u32 (t.g : Int)) /\ W.cell? ⟨b,7,none⟩ = some (.int .u32 (t.h : Int)) /\ W.cell? ⟨b,8,none⟩ = some rv /\ W.cell? ⟨b,9,none⟩ = some (.int .i64 (l.length : Int))) ((refine hashAll h1 ?_; first | (iterate 8 (refine belowSet ?_ _ _ _ (by omega))); exact hB2 | exact Below.drew (Below.refl _ _) | exact hB1 | exact hB2 | exact belowAlloc hB2 _ | exact belowAlloc hB1 _ | exact Below.drew (belowAlloc (Below.refl _ _) _))) (first
  | (go_at_call 132; refine (hen.out _).mono ?_; rintro e w1 ⟨rfl,hb1⟩; have hB1 : Below w.heap.size w w1:=belowCall (And.left (by assumption)) hb1; have hz1:=hB1.size; try (have qd:=fun i=>hb1.cell (p:=⟨w.heap.size,i,none⟩) (by simp); have qf:=fun i=>hb1.frozen (p:=⟨w.heap.size,i,none⟩) (by simp); have d0:=qd 0; simp at d0; have f0:=qf 0; simp at f0; have d1:=qd 1; simp at d1; have f1:=qf 1; simp at f1; have d2:=qd 2; simp at d2; have f2:=qf 2; simp at f2; have d3:=qd 3; simp at d3; have f3:=qf 3; simp at f3; have d4:=qd 4; simp at d4; have f4:=qf 4; simp at f4; have d5:=qd 5; simp at d5; have f5:=qf 5; simp at f5; have d6:=qd 6; simp at d6; have f6:=qf 6; simp at f6; have d7:=qd 7; simp at d7; have f7:=qf 7; simp at f7; clear qd qf; have hq : w.heap.size < w1.heap.size:=(by have:=hb1.size; simp at this; omega)))
  | (go_at_call 131; refine (hfe.out _ (ht.below' (And.left (by assumption))) (h2.below (And.left (by assumption)))).mono ?_; rintro e w2 ⟨nb,cs,m,k,rfl,hm,hk,hnb,hnh,hkc,hck,hb2⟩; have hB2 : Below w.heap.size w w2:=belowCall (And.left (by assumption)) hb2; have hz2:=hB2.size; try (first | (have e0:=(hb2.cell (p:=⟨w.heap.size,0,none⟩) hq).trans d0; have g0:=(hb2.frozen (p:=⟨w.heap.size,0,none⟩) hq).trans f0; have e1:=(hb2.cell (p:=⟨w.heap.size,1,none⟩) hq).trans d1; have g1:=(hb2.frozen (p:=⟨w.heap.size,1,none⟩) hq).trans f1; have e2:=(hb2.cell (p:=⟨w.heap.size,2,none⟩) hq).trans d2; have g2:=(hb2.frozen (p:=⟨w.heap.size,2,none⟩) hq).trans f2; have e3:=(hb2.cell (p:=⟨w.heap.size,3,none⟩) hq).trans d3; have g3:=(hb2.frozen (p:=⟨w.heap.size,3,none⟩) hq).trans f3; have e4:=(hb2.cell (p:=⟨w.heap.size,4,none⟩) hq).trans d4; have g4:=(hb2.frozen (p:=⟨w.heap.size,4,none⟩) hq).trans f4; have e5:=(hb2.cell (p:=⟨w.heap.size,5,none⟩) hq).trans d5; have g5:=(hb2.frozen (p:=⟨w.heap.size,5,none⟩) hq).trans f5; have e6:=(hb2.cell (p:=⟨w.heap.size,6,none⟩) hq).trans d6; have g6:=(hb2.frozen (p:=⟨w.heap.size,6,none⟩) hq).trans f6; have e7:=(hb2.cell (p:=⟨w.heap.size,7,none⟩) hq).trans d7; have g7:=(hb2.frozen (p:=⟨w.heap.size,7,none⟩) hq).trans f7) | (have qd:=fun i=>hb2.cell (p:=⟨w1.heap.size,i,none⟩) (by simp); have qf:=fun i=>hb2.frozen (p:=⟨w1.heap.size,i,none⟩) (by simp); have d0:=qd 0; simp at d0; have f0:=qf 0; simp at f0; have d1:=qd 1; simp at d1; have f1:=qf 1; simp at f1; have d2:=qd 2; simp at d2; have f2:=qf 2; simp at f2; have d3:=qd 3; simp at d3; have f3:=qf 3; simp at f3; have d4:=qd 4; simp at d4; have f4:=qf 4; simp at f4; have d5:=qd 5; simp at d5; have f5:=qf 5; simp at f5; have d6:=qd 6; simp at d6; have f6:=qf 6; simp at f6; have d7:=qd 7; simp at d7; have f7:=qf 7; simp at f7; clear qd qf))))
 all_goals
  have hm2:=hdi.out m hm.out
  have hmk:=hm2.2
  have Hd : Hid (Sha.tell m = Sha.digest l):=hm2.1
  clear hm2
  have hT : Hid (∀ W,_):=fun W=>tellNumbers_any m hmk W
  go_wp2_with (go_at_call 133; refine (hT.out _).mono ?_; rintro e w3 ⟨rfl,hb3⟩)
  go_light
  go_ret
  refine ⟨by show Ending.returned (.string (ofBs (Sha.tell m))) = _; rw [Hd.out],?_⟩
  exact belowCall (And.left (by assumption)) hb3
end Go.Proofs.YteapbbaollmniaaGreatDoor.H
/- The contracts of Sum of bytes, and of a nil hash's Sum. -/
namespace Go.Proofs.YteapbbaollmniaaGreatDoor.H
open Go.RowKit
theorem sum_any (w : World) (ht : Tabs w) (s : ByteArray) (hs : s.size <= 900000000000) : Calls Tryz.prog 38 #[.string s] w fun e w'=>e = .returned (.string (ofBs (Sha.digest (bs s)))) /\ Below w.heap.size w w':=by
 go_enter Tryz.func38,Tryz.ntmps38
 go_wp2_with fail
 refine (new_any w ht).mono ?_
 rintro e w1 ⟨rfl,h1,b1⟩
 go_wp2_with fail
 refine (add_any w1 (ht.below' b1) w.heap.size [] (by simp) h1 s (by simp; omega)).mono ?_
 rintro e w2 ⟨rfl,h2,o2⟩
 have hlt:=ht.cu.lt
 have hlt1:=h1.lt
 rw [List.nil_append] at h2
 go_wp2_with fail
 refine (hashSum_any w2 ((ht.below' b1).only o2 hlt) w.heap.size (bs s) (bs_lt s) h2 (by rw [bs_length]; omega)).mono ?_
 rintro e w3 ⟨rfl,b3⟩
 go_wp2_with fail
 go_ret
 exact ⟨rfl,belowCall (b1.trans (o2.below (Nat.le_refl _) (by omega))) b3⟩
end Go.Proofs.YteapbbaollmniaaGreatDoor.H
/- The contract of Hex; of what was there nothing changes. -/
namespace Go.Proofs.YteapbbaollmniaaGreatDoor.H
open Go.RowKit
namespace Sha
def hexChar (n : Nat) : Nat:=if n < 10 then 48 + n else 87 + n
def hex (l : List Nat) : List Nat:=l.flatMap fun x=>[hexChar (x / 16),hexChar (x % 16)]
end Sha
set_option maxRecDepth 20000 in
theorem hexLit_index (n : Nat) (hn : n < 16) (w : World) : (Instr.index 9 (.string ⟨#[48,49,50,51,52,53,54,55,56,57,97,98,99,100,101,102]⟩) (.int .u8 (n : Int))).run Tryz.prog w = .ok (.int .u8 ((Sha.hexChar n : Nat) : Int)) w:=by
 have : n = 0 \/ n = 1 \/ n = 2 \/ n = 3 \/ n = 4 \/ n = 5 \/ n = 6 \/ n = 7 \/ n = 8 \/ n = 9 \/ n = 10 \/ n = 11 \/ n = 12 \/ n = 13 \/ n = 14 \/ n = 15:=by omega
 rcases this with rfl | rfl | rfl | rfl | rfl | rfl | rfl | rfl | rfl | rfl | rfl | rfl | rfl | rfl | rfl | rfl <;> rfl
theorem and15 (x : Nat) (hx : x < 256) : bits BinOp.and IntKind.u8 (x : Int) 15 = ((x % 16 : Nat) : Int):=by
 rw [show (15 : Int) = ((15 : Nat) : Int) from rfl,u8_and_nat x 15 hx (by decide)]
 rw [show (15 : Nat) = 2 ^ 4 - 1 from rfl,Nat.and_two_pow_sub_one_eq_mod]
theorem bs_take_succ (s : ByteArray) (k : Nat) (h : k < s.size) : (bs s).take (k + 1) = (bs s).take k ++ [s[k].toNat]:=by
 rw [List.take_succ_eq_append_getElem (by rw [bs_length]; exact h)]
 congr 1
 simp [bs]
 rfl
theorem hex_snoc (l : List Nat) (x : Nat) : Sha.hex (l ++ [x]) = Sha.hex l ++ [Sha.hexChar (x / 16)] ++ [Sha.hexChar (x % 16)]:=by simp [Sha.hex]
theorem hexChar_lt (n : Nat) (h : n < 16) : Sha.hexChar n < 256:=by unfold Sha.hexChar; split <;> omega
theorem hex_lt (l : List Nat) (h : ∀ x ∈ l,x < 256) : ∀ x ∈ Sha.hex l,x < 256:=by
 intro x hx
 simp only [Sha.hex,List.mem_flatMap,List.mem_cons,List.not_mem_nil,or_false] at hx
 obtain ⟨y,hy,hx⟩:=hx
 have:=h y hy
 rcases hx with rfl | rfl
 ·exact hexChar_lt _ (by omega)
 ·exact hexChar_lt _ (by omega)
theorem hex_length (l : List Nat) : (Sha.hex l).length = 2 * l.length:=by
 induction l with
 | nil=>rfl
 | cons x l ih=>simp [Sha.hex] at ih ⊢; omega
set_option maxRecDepth 20000 in
set_option maxHeartbeats 1000000 in
theorem hex_any (s : ByteArray) (hs : s.size <= 900000000000) (w : World) :
  Calls Tryz.prog 118 #[.string s] w fun e w'=>e = .returned (.string (ofBs (Sha.hex (bs s)))) /\ Below w.heap.size w w':=by
 go_enter Tryz.func118,Tryz.ntmps118
 go_wp2_with fail
 refine (room_any w.heap.size (2 * s.size) _ _ (by simp) (Has.new w w.heap.size _ 216 rfl) (by omega)).mono ?_
 rintro e w1 ⟨rfl,h1,b1⟩
 have b1' : Below w.heap.size w w1:=((Below.refl _ _).alloc (Nat.le_refl _) _).trans b1
 clear b1
 go_wp2_with fail
 go_loopw [11] (fun v wr=>∃ k : Nat,k <= s.size /\ v = .int .i64 (k : Int) /\ Holds w.heap.size (Sha.hex ((bs s).take k)) wr /\ Below w.heap.size w wr) (fun v _=>s.size - (intOf v).toNat)
 case atStart=>exact ⟨0,by omega,rfl,h1,b1'⟩
 case round =>
  clear h1 b1'
  obtain ⟨k,hk,rfl,h1,b1⟩:=hrel
  by_cases hlt : k < s.size
  ·have hx : s[k].toNat < 256:=s[k].toNat_lt
   have hsn:=bs_take_succ s k hlt
   have HS : Hid (Sha.hex ((bs s).take (k + 1)) = Sha.hex ((bs s).take k) ++ [Sha.hexChar (s[k].toNat / 16)] ++ [Sha.hexChar (s[k].toNat % 16)]):=by
    unfold Hid; rw [hsn,hex_snoc]
   have hll : Hid ((Sha.hex ((bs s).take k)).length <= 2 * s.size):=by unfold Hid; rw [hex_length,List.length_take,bs_length]; omega
   have e1 : ∀ w,(Instr.index 9 (.string ⟨#[48,49,50,51,52,53,54,55,56,57,97,98,99,100,101,102]⟩) (.int .u8 ((s[k].toNat : Int) / 16))).run Tryz.prog w = .ok (.int .u8 ((Sha.hexChar (s[k].toNat / 16) : Nat) : Int)) w:=fun w=>hexLit_index (s[k].toNat / 16) (by omega) w
   have e2 : ∀ w,(Instr.index 9 (.string ⟨#[48,49,50,51,52,53,54,55,56,57,97,98,99,100,101,102]⟩) (.int .u8 (bits BinOp.and IntKind.u8 (s[k].toNat : Int) 15))).run Tryz.prog w = .ok (.int .u8 ((Sha.hexChar (s[k].toNat % 16) : Nat) : Int)) w:=by
    intro w; rw [and15 _ hx]; exact hexLit_index (s[k].toNat % 16) (by omega) w
   clear hsn hx
   generalize Sha.hex ((bs s).take k) = acc at h1 HS hll
   go_wp2_with fail
   refine (write_any w.heap.size _ _ _ _ rfl h1 (by have:=hll.out; omega)).mono ?_
   rintro e w2 ⟨rfl,h2,b2⟩
   go_wp2_with fail
   refine (write_any w.heap.size _ _ _ _ rfl h2 (by have:=hll.out; simp; omega)).mono ?_
   rintro e w3 ⟨rfl,h3,b3⟩
   rw [<- HS.out] at h3
   go_wp2_with fail
   exact ⟨⟨k + 1,by omega,by go_num,h3,(b1.trans b2).trans b3⟩,by simp [intOf]; omega⟩
  ·obtain rfl : k = s.size:=by omega
   rw [List.take_of_length_le (by rw [bs_length]; exact Nat.le_refl _)] at h1
   go_wp2_with (go_at_call 137; refine (tell_any w.heap.size _ _ h1 (hex_lt _ (bs_lt s))).mono ?_; rintro e w2 ⟨rfl,b2⟩)
   go_ret
   exact ⟨rfl,b1.trans b2⟩
end Go.Proofs.YteapbbaollmniaaGreatDoor.H
/- The contract of Unhex; of what was there nothing changes. -/
namespace Go.Proofs.YteapbbaollmniaaGreatDoor.H
open Go.RowKit
namespace Sha
end Sha
theorem bs_getD (s : ByteArray) (k : Nat) (h : k < s.size) : (bs s).getD k 0 = s[k].toNat:=by
 rw [List.getD_eq_getElem?_getD,List.getElem?_eq_getElem (by rw [bs_length]; exact h)]
 simp [bs]
 rfl
end Go.Proofs.YteapbbaollmniaaGreatDoor.H
/- Plain facts: the bytes of a hex of bytes are the bytes, and the hex of a hex's bytes the hex. -/
namespace Go.Proofs.YteapbbaollmniaaGreatDoor.H
namespace Sha
end Sha
end Go.Proofs.YteapbbaollmniaaGreatDoor.H
/- The contract of many: a byte, so often. -/
namespace Go.Proofs.YteapbbaollmniaaGreatDoor.H
open Go.RowKit
theorem fold_push (l : List Nat) (acc : ByteArray) : (l.map fun x : Nat=>(x : Int)).foldl (fun r n=>r.push (UInt8.ofNat n.toNat)) acc = ⟨acc.data ++ (l.map fun x=>x.toUInt8).toArray⟩:=by
 induction l generalizing acc with
 | nil=>simp
 | cons x l ih =>
  simp only [List.map_cons,List.foldl_cons,ih,Int.toNat_natCast]
  have : (acc.push (UInt8.ofNat x)).data = acc.data.push (UInt8.ofNat x):=rfl
  rw [this]
  congr 1
  apply Array.toList_inj.1
  simp
theorem conv_str (w : World) (b : Nat) (l : List Nat) (t : TypeId) (c : Nat) (h : Has w b (U8s l) t) :
  (convert 136 9 (.slice (some ⟨b,0,none⟩) l.length c)).run Tryz.prog w = .ok (.string (ofBs l)) w:=by
 rw [run_convert_bytes_string w 136 9 5 _ _ _ Tryz.underlying136 Tryz.underlying5 Tryz.underlying9]
 have hl : (loadCells ⟨b,0,none⟩ l.length).run Tryz.prog w = .ok ((l.map fun x : Nat=>(x : Int)).map (Value.int .u8)).toArray w:=by
  have h2:=run_loadCells_list (P:=Tryz.prog) w ⟨b,0,none⟩ (U8s l).toList (fun j v hv=>by rw [Addr.add_mid]; exact h.range j v hv)
  rw [Array.length_toList,U8s_size] at h2
  rw [h2]
  simp [U8s]
 rw [run_bytesToString w _ _ _ _ hl,fold_push]
 simp [ofBs]
end Go.Proofs.YteapbbaollmniaaGreatDoor.H
/- What is laid when a call begins; the contracts of Name, Code and mayIndex. -/
namespace Go.Proofs.YteapbbaollmniaaGreatDoor.H
open Go.RowKit
/-- what the tables and the errors of the library hold -/
structure Lay (w : World) : Prop where
 ht : Tabs w
 pw : HasC w 3 (Lib.pow10Tab.map fun z=>Value.int .u64 z).toArray
theorem Lay.below {w W : World} (h : Lay w) (hb : Below w.heap.size w W) : Lay W :=
 ⟨h.ht.below' hb,h.pw.below hb h.pw.lt⟩
theorem var_of_hasC {w : World} {g : Nat} {name : String} {cs : Array Value} (hg : Tryz.prog.globalNamed name = some g) (h : HasC w g cs) : w.var? Tryz.prog name = some cs:=by
 obtain ⟨t,fr,h⟩:=h
 unfold World.var?
 rw [hg]
 simp [h]
theorem gPow : Tryz.prog.globalNamed "internal/strconv.uint64pow10" = some 3 := by kernel_rfl
/-- a number's digits, with a - ahead of one below 0 -/
def dec (n : Int) : List Nat:=(Lib.itoa n).map (·.toNat)
theorem dec_str (n : Int) : (⟨(Lib.itoa n).toArray⟩ : ByteArray) = ofBs (dec n):=by
 unfold ofBs dec
 rw [List.map_map]
 congr 2
 symm
 have : List.map ((fun x : Nat=>x.toUInt8) ∘ fun x : UInt8=>x.toNat) (Lib.itoa n) = List.map id (Lib.itoa n):=by
  apply List.map_congr_left
  intro x _
  simp [Function.comp]
 rw [this,List.map_id]
theorem ofBs_append (a b : List Nat) : ofBs (a ++ b) = ofBs a ++ ofBs b:=by
 unfold ofBs
 apply ByteArray.ext
 rw [ByteArray.data_append]
 simp
theorem dec_length (n : Int) (h0 : -9223372036854775808 <= n) (h1 : n <= 9223372036854775807) : (dec n).length <= 21:=by
 unfold dec; rw [List.length_map]; exact Lib.itoa_length_le n h0 h1
/-- an object's name -/
def nm (d : List Nat) (i : Int) : List Nat:=Sha.hex d ++ [46] ++ dec i
theorem itoa_any (n : Int) (h0 : -9223372036854775808 <= n) (h1 : n <= 9223372036854775807) (w : World) (hl : Lay w) :
  Calls Tryz.prog 119 #[.int .i64 n] w fun e w'=>e = .returned (.string (ofBs (dec n))) /\ Below w.heap.size w w':=by
 refine (Tryz.strconv_Itoa n h0 h1 w (var_of_hasC gPow hl.pw)).mono ?_
 rintro e w' ⟨rfl,k,os,rfl⟩
 rw [dec_str]
 exact ⟨rfl,Lib.below_grow _ _ (Nat.le_refl _) _ _⟩
theorem name_any (d : ByteArray) (i : Int) (hd : d.size <= 400000000000) (h0 : -9223372036854775808 <= i) (h1 : i <= 9223372036854775807) (w : World) (hl : Lay w) :
  Calls Tryz.prog 72 #[.string d,.int .i64 i] w fun e w'=>e = .returned (.string (ofBs (nm (bs d) i))) /\ Below w.heap.size w w':=by
 have z1 : (ofBs (Sha.hex (bs d))).size = 2 * d.size:=by rw [ofBs_size,hex_length,bs_length]
 have z2 : (ofBs (dec i)).size <= 21:=by rw [ofBs_size]; exact dec_length i h0 h1
 have E : Hid (ofBs (Sha.hex (bs d)) ++ ⟨#[46]⟩ ++ ofBs (dec i) = ofBs (nm (bs d) i)):=by
  unfold Hid nm; rw [ofBs_append,ofBs_append]; rfl
 go_enter Tryz.func72,Tryz.ntmps72
 go_wp2_with fail
 refine (hex_any d (by omega) w).mono ?_
 rintro e w1 ⟨rfl,b1⟩
 have hB:=itoa_any i h0 h1 w1 (hl.below b1)
 generalize ofBs (Sha.hex (bs d)) = A at *
 generalize ofBs (dec i) = B at *
 have q1 : ¬ 9223372036854775807 < A.size + 1:=by omega
 have q2 : ¬ 9223372036854775807 < A.size + 1 + B.size:=by omega
 clear z1 z2
 go_wp2_with fail
 refine hB.mono ?_
 rintro e w2 ⟨rfl,b2⟩
 go_wp2_with fail
 go_ret
 exact ⟨by rw [E.out]; rfl,belowCall b1 b2⟩
/-- whether a code may be -/
def okC (K N : Int) : Bool:=decide (1 <= K) && decide (K <= N) && decide (N <= 12)
set_option maxRecDepth 20000 in
theorem code_any (K N : Int) (w : World) : Calls Tryz.prog 71 #[.agg #[.int .i64 K,.int .i64 N]] w fun e w'=>e = .returned (.bool (okC K N)) /\ Below w.heap.size w w':=by
 go_enter Tryz.func71,Tryz.ntmps71
 go_wp2
 all_goals
  go_ret
  refine ⟨?_,(Below.refl _ _).alloc (Nat.le_refl _) _⟩
  simp_all [okC] <;> omega
set_option maxRecDepth 20000 in
theorem refCode_any (K N : Int) (w : World) : Calls Tryz.prog 94 #[.agg #[.int .i64 K,.int .i64 N]] w fun e w'=>e = .returned (.bool (okC K N)) /\ Below w.heap.size w w':=by
 go_enter Tryz.func94,Tryz.ntmps94
 go_wp2
 all_goals
  go_ret
  refine ⟨?_,(Below.refl _ _).alloc (Nat.le_refl _) _⟩
  simp_all [okC] <;> omega
theorem may_any (i n : Int) (w : World) : Calls Tryz.prog 85 #[.int .i64 i,.int .i64 n] w fun e w'=>e = .returned (.bool (decide (0 <= i) && decide (i < n))) /\ w' = w:=by
 go_enter Tryz.func85,Tryz.ntmps85
 go_wp2
 all_goals
  go_ret
  refine ⟨?_,rfl⟩
  simp_all <;> omega
end Go.Proofs.YteapbbaollmniaaGreatDoor.H
/- The contract of written: a shard's bytes. -/
namespace Go.Proofs.YteapbbaollmniaaGreatDoor.H
open Go.RowKit
theorem digest_lt (l : List Nat) : ∀ x ∈ Sha.digest l,x < 256:=Sha.tells_lt _
theorem digest_length (l : List Nat) : (Sha.digest l).length = 32:=by
 unfold Sha.digest Sha.tell; rw [Sha.tells_length]; rfl
/-- a number in 4 bytes -/
def be4 (n : Nat) : List Nat:=[n / 16777216 % 256,n / 65536 % 256,n / 256 % 256,n % 256]
/-- a shard's bytes but for the last digest -/
def pre (K N i : Nat) (d p : List Nat) : List Nat:=[115,104,100,49] ++ [K,N,i] ++ be4 p.length ++ d ++ p
/-- a shard's bytes -/
def dat (K N i : Nat) (d p : List Nat) : List Nat:=pre K N i d p ++ Sha.digest (pre K N i d p)
/-- a shard, as cells -/
def shc (K N : Int) (d : ByteArray) (i : Int) (p : ByteArray) : Array Value:=#[.int .i64 K,.int .i64 N,.string d,.int .i64 i,.string p]
theorem strCells_bs (s : ByteArray) : Lib.strCells s = (U8s (bs s)).toList:=by
 simp [Lib.strCells,U8s,bs]
theorem puts_any (b : Nat) (l : List Nat) (s : ByteArray) (w : World) (h : Holds b l w) (hl : l.length + s.size <= 100000000000000) :
  Calls Tryz.prog 135 #[.pointer (some ⟨b,0,none⟩),.string s] w fun e w'=>e = .returned (.tuple #[.int .i64 s.size,.nilIface]) /\ Holds b (l ++ bs s) w' /\ Below b w w':=by
 refine (Tryz.Builder_WriteString b b _ s w h (by rw [Array.length_toList,U8s_size]; omega) (Nat.le_of_lt h.lt)).mono ?_
 rintro e w' ⟨rfl,h1,h2⟩
 refine ⟨rfl,Or.inr ?_,h2⟩
 rw [strCells_bs] at h1
 have e : (U8s l).toList ++ (U8s (bs s)).toList = (U8s (l ++ bs s)).toList:=by simp [U8s]
 rw [<- e]; exact h1
/-- a builder of which String was asked -/
def HoldsF (b : Nat) (l : List Nat) (w : World) : Prop:=Lib.IsBuilderF 216 5 b b (U8s l).toList w
theorem HoldsF.lt {b : Nat} {l : List Nat} {w : World} (h : HoldsF b l w) : b < w.heap.size:=h.elim (fun x=>x.lt) (fun x=>x.lt)
theorem HoldsF.below {b : Nat} {l : List Nat} {w W : World} (h : HoldsF b l w) (hb : Below w.heap.size w W) : HoldsF b l W:=by
 have key : ∀ {q : Value},Lib.BuilderAtF 216 5 b b q (U8s l).toList w -> Lib.BuilderAtF 216 5 b b q (U8s l).toList W:=by
  intro q hq
  have hlt:=hq.lt
  obtain ⟨h1,v,h2,h3,h4⟩:=hq
  refine ⟨h1,v,by rw [hb.block b hlt]; exact h2,h3.kept (row:=none) ⟨hb.os,hb.tape,hb.output,hb.size,fun k hk _=>hb.block k hk⟩ ?_,h4⟩
  cases v.ownBlock with
  | none=>exact .inl rfl
  | some k=>exact .inr (by simp)
 exact h.elim (fun x=>.inl (key x)) (fun x=>.inr (key x))
theorem tellF_any (b : Nat) (l : List Nat) (w : World) (h : HoldsF b l w) (hl : ∀ x ∈ l,x < 256) :
  Calls Tryz.prog 137 #[.pointer (some ⟨b,0,none⟩)] w fun e w'=>e = .returned (.string (ofBs l)) /\ HoldsF b l w' /\ Below b w w':=by
 have h' : Lib.IsBuilderF 216 5 b b (Lib.byteCells (l.map fun x=>x.toUInt8)) w:=by rw [cells_u8 l hl]; exact h
 refine (Tryz.Builder_String_any_f b b _ w h' (Nat.le_of_lt h.lt)).mono ?_
 rintro e w' ⟨rfl,h1,h2⟩
 refine ⟨rfl,?_,h2⟩
 unfold HoldsF
 rw [<- cells_u8 l hl]; exact h1
theorem putsF_any (b : Nat) (l : List Nat) (s : ByteArray) (w : World) (h : HoldsF b l w) (hl : l.length + s.size <= 100000000000000) :
  Calls Tryz.prog 135 #[.pointer (some ⟨b,0,none⟩),.string s] w fun e w'=>e = .returned (.tuple #[.int .i64 s.size,.nilIface]) /\ HoldsF b (l ++ bs s) w' /\ Below b w w':=by
 refine (Tryz.Builder_WriteString_f b b _ s w h (by rw [Array.length_toList,U8s_size]; omega) (Nat.le_of_lt h.lt)).mono ?_
 rintro e w' ⟨rfl,h1,h2⟩
 refine ⟨rfl,Or.inr ?_,h2⟩
 rw [strCells_bs] at h1
 have e : (U8s l).toList ++ (U8s (bs s)).toList = (U8s (l ++ bs s)).toList:=by simp [U8s]
 rw [<- e]; exact h1
/-- the memory of written: the shard, and a builder behind it -/
structure WrW (c : Array Value) (l : List Nat) (w W : World) : Prop where
 hb : Holds (w.heap.size + 1) l W
 hs : Has W w.heap.size c 105
 bl : Below w.heap.size w W
theorem WrW.next {c : Array Value} {l l' : List Nat} {w W W' : World} (h : WrW c l w W) (h' : Holds (w.heap.size + 1) l' W') (hb : Below (w.heap.size + 1) W W') : WrW c l' w W' :=
 ⟨h',h.hs.below hb (Nat.lt_succ_self _),h.bl.trans (hb.mono (Nat.le_succ _))⟩
theorem shc_cells {W : World} {b : Nat} {K N : Int} {d : ByteArray} {i : Int} {p : ByteArray} {t : TypeId} (h : Has W b (shc K N d i p) t) :
  W.cell? ⟨b,0,none⟩ = some (.int .i64 K) /\ W.cell? ⟨b,1,none⟩ = some (.int .i64 N) /\ W.cell? ⟨b,2,none⟩ = some (.string d) /\ W.cell? ⟨b,3,none⟩ = some (.int .i64 i) /\ W.cell? ⟨b,4,none⟩ = some (.string p) :=
 ⟨h.cell 0,h.cell 1,h.cell 2,h.cell 3,h.cell 4⟩
set_option maxRecDepth 20000 in
theorem arr3_0 (a b c : Int) (w : World) : (Instr.index 222 (.agg #[.int .i64 a,.int .i64 b,.int .i64 c]) (.int .i64 0)).run Tryz.prog w = .ok (.int .i64 a) w:=by rfl
set_option maxRecDepth 20000 in
theorem arr3_1 (a b c : Int) (w : World) : (Instr.index 222 (.agg #[.int .i64 a,.int .i64 b,.int .i64 c]) (.int .i64 1)).run Tryz.prog w = .ok (.int .i64 b) w:=by rfl
set_option maxRecDepth 20000 in
theorem arr3_2 (a b c : Int) (w : World) : (Instr.index 222 (.agg #[.int .i64 a,.int .i64 b,.int .i64 c]) (.int .i64 2)).run Tryz.prog w = .ok (.int .i64 c) w:=by rfl
set_option maxRecDepth 20000 in
set_option maxHeartbeats 1000000 in
theorem written_any (K N i : Nat) (d p : ByteArray) (hK : K < 256) (hN : N < 256) (hi : i < 256) (hd : d.size <= 1000) (hp : p.size <= 65536) (w : World) (hl : Lay w) :
  Calls Tryz.prog 86 #[.agg (shc K N d i p)] w fun e w'=>e = .returned (.string (ofBs (dat K N i (bs d) (bs p)))) /\ Below w.heap.size w w':=by
 have k1 : (K : Int) < 256:=by omega
 have k2 : (N : Int) < 256:=by omega
 have k3 : (i : Int) < 256:=by omega
 have q0 : (75 : Int) + (p.size : Int) <= 70000:=by omega
 unfold shc
 go_enter Tryz.func86,Tryz.ntmps86
 go_wp2_with fail
 have hb0 : Below w.heap.size w (w.alloc (.cells (shc K N d i p) 105)):=(Below.refl _ _).alloc (Nat.le_refl _) _
 have hs0 : Has (w.alloc (.cells (shc K N d i p) 105)) w.heap.size (shc K N d i p) 105:=Has.new _ _ _ _ rfl
 refine (room_any (w.heap.size + 1) (75 + p.size) _ _ (by simp) (Has.new _ _ _ 216 (by simp)) (by omega)).mono ?_
 rintro e w1 ⟨rfl,h1,b1⟩
 have W1 : WrW (shc K N d i p) [] w w1:=⟨h1,(hs0.alloc _).below b1 (Nat.lt_succ_self _),((belowAlloc hb0 _).trans (b1.mono (Nat.le_succ _)))⟩
 clear h1 b1 hb0 hs0
 go_wp2_with fail
 refine (puts_any _ _ _ _ W1.hb (by show 0 + 4 <= _; omega)).mono ?_
 rintro e w2 ⟨rfl,h2,b2⟩
 have W2 : WrW (shc K N d i p) [115,104,100,49] w w2:=W1.next h2 b2
 clear h2 b2 W1
 obtain ⟨c0,c1,c2,c3,c4⟩:=shc_cells W2.hs
 go_wp2_with fail
 go_loopw [22] (fun v wr=>∃ k : Nat,k <= 3 /\ v = .int .i64 (k : Int) /\ WrW (shc K N d i p) ([115,104,100,49] ++ [K,N,i].take k) w wr) (fun v _=>3 - (intOf v).toNat)
 case atStart=>exact ⟨0,by omega,rfl,W2⟩
 case round =>
  clear W2 c0 c1 c2 c3 c4
  obtain ⟨k,hk,rfl,W3⟩:=hrel
  by_cases hlt : k < 3
  ·have : k = 0 \/ k = 1 \/ k = 2:=by omega
   rcases this with rfl | rfl | rfl
   ·have ix:=arr3_0 (K : Int) (N : Int) (i : Int)
    go_wp2_with fail
    refine (write_any _ _ _ K _ rfl W3.hb (by simp)).mono ?_
    rintro e w4 ⟨rfl,h4,b4⟩
    have W4:=W3.next h4 b4
    go_wp2_with fail
    exact ⟨⟨1,by omega,rfl,W4⟩,by simp [intOf]⟩
   ·have ix:=arr3_1 (K : Int) (N : Int) (i : Int)
    go_wp2_with fail
    refine (write_any _ _ _ N _ rfl W3.hb (by simp)).mono ?_
    rintro e w4 ⟨rfl,h4,b4⟩
    have W4:=W3.next h4 b4
    go_wp2_with fail
    exact ⟨⟨2,by omega,rfl,W4⟩,by simp [intOf]⟩
   ·have ix:=arr3_2 (K : Int) (N : Int) (i : Int)
    go_wp2_with fail
    refine (write_any _ _ _ i _ rfl W3.hb (by simp)).mono ?_
    rintro e w4 ⟨rfl,h4,b4⟩
    have W4:=W3.next h4 b4
    go_wp2_with fail
    exact ⟨⟨3,by omega,rfl,W4⟩,by simp [intOf]⟩
  ·obtain rfl : k = 3:=by omega
   have W4 : WrW (shc K N d i p) [115,104,100,49,K,N,i] w wr:=W3
   clear W3
   obtain ⟨c0,c1,c2,c3,c4⟩:=shc_cells W4.hs
   go_wp2_with fail
   go_loopw [6] (fun v wr=>∃ k : Nat,k <= 4 /\ v = .int .i64 (3 - (k : Int)) /\ WrW (shc K N d i p) ([115,104,100,49,K,N,i] ++ (be4 p.size).take k) w wr) (fun v _=>((intOf v) + 1).toNat)
   case atStart=>exact ⟨0,by omega,rfl,W4⟩
   case round =>
    clear W4 c0 c1 c2 c3 c4 hk hlt
    obtain ⟨k,hk,rfl,W5⟩:=hrel
    obtain ⟨c0,c1,c2,c3,c4⟩:=shc_cells W5.hs
    by_cases hlt : k < 4
    ·have : k = 0 \/ k = 1 \/ k = 2 \/ k = 3:=by omega
     rcases this with rfl | rfl | rfl | rfl
     ·go_wp2_with fail
      refine (write_any _ _ _ (p.size / 16777216 % 256) _ (by omega) W5.hb (by simp)).mono ?_
      rintro e w6 ⟨rfl,h6,b6⟩
      have W6:=W5.next h6 b6
      go_wp2_with fail
      go_roundw
      case rel =>
       (repeat apply Exists.intro)
       refine ⟨?_,rfl⟩
       exact ⟨1,by omega,rfl,W6⟩
      case measure=>simp [intOf]
     ·go_wp2_with fail
      refine (write_any _ _ _ (p.size / 65536 % 256) _ (by omega) W5.hb (by simp [be4])).mono ?_
      rintro e w6 ⟨rfl,h6,b6⟩
      have W6:=W5.next h6 b6
      go_wp2_with fail
      go_roundw
      case rel =>
       (repeat apply Exists.intro)
       refine ⟨?_,rfl⟩
       exact ⟨2,by omega,rfl,W6⟩
      case measure=>simp [intOf]
     ·go_wp2_with fail
      refine (write_any _ _ _ (p.size / 256 % 256) _ (by omega) W5.hb (by simp [be4])).mono ?_
      rintro e w6 ⟨rfl,h6,b6⟩
      have W6:=W5.next h6 b6
      go_wp2_with fail
      go_roundw
      case rel =>
       (repeat apply Exists.intro)
       refine ⟨?_,rfl⟩
       exact ⟨3,by omega,rfl,W6⟩
      case measure=>simp [intOf]
     ·go_wp2_with fail
      refine (write_any _ _ _ (p.size % 256) _ (by omega) W5.hb (by simp [be4])).mono ?_
      rintro e w6 ⟨rfl,h6,b6⟩
      have W6:=W5.next h6 b6
      go_wp2_with fail
      go_roundw
      case rel =>
       (repeat apply Exists.intro)
       refine ⟨?_,rfl⟩
       exact ⟨4,by omega,rfl,W6⟩
      case measure=>simp [intOf]
    ·obtain rfl : k = 4:=by omega
     have W6 : WrW (shc K N d i p) ([115,104,100,49,K,N,i] ++ be4 p.size) w wr:=W5
     clear W5
     go_wp2_with fail
     refine (puts_any _ _ d _ W6.hb (by show 11 + d.size <= _; omega)).mono ?_
     rintro e w7 ⟨rfl,h7,b7⟩
     have W7:=W6.next h7 b7
     obtain ⟨c0,c1,c2,c3,c4⟩:=shc_cells W7.hs
     clear h7 b7 W6
     go_wp2_with fail
     refine (puts_any _ _ p _ W7.hb (by simp [be4,bs_length]; omega)).mono ?_
     rintro e w8 ⟨rfl,h8,b8⟩
     have W8:=W7.next h8 b8
     clear h8 b8 W7 c0 c1 c2 c3 c4
     have hpre : [115,104,100,49,K,N,i] ++ be4 p.size ++ bs d ++ bs p = pre K N i (bs d) (bs p):=by
      unfold pre; rw [bs_length]; rfl
     rw [hpre] at W8
     have hlen : (pre K N i (bs d) (bs p)).length = 11 + d.size + p.size:=by
      unfold pre be4; simp [bs_length]; omega
     have hlt8 : ∀ x ∈ pre K N i (bs d) (bs p),x < 256:=by
      intro x hx
      unfold pre be4 at hx
      simp only [List.mem_append,List.mem_cons,List.not_mem_nil,or_false] at hx
      rcases hx with (((hx | hx) | hx) | hx) | hx
      ·omega
      ·omega
      ·omega
      ·exact bs_lt d x hx
      ·exact bs_lt p x hx
     have HD : Hid (ofBs (dat K N i (bs d) (bs p)) = ofBs (pre K N i (bs d) (bs p) ++ Sha.digest (pre K N i (bs d) (bs p)))):=rfl
     clear hpre
     generalize pre K N i (bs d) (bs p) = P at *
     go_wp2_with fail
     have F8 : HoldsF (w.heap.size + 1) P w8:=Lib.IsBuilderF.of W8.hb
     refine (tellF_any _ P _ F8 hlt8).mono ?_
     rintro e w9 ⟨rfl,h9,b9⟩
     have B9:=W8.bl.trans (b9.mono (Nat.le_succ _))
     have l9:=hl.below B9
     clear F8 W8 b9
     go_wp2_with fail
     refine (sum_any w9 l9.ht (ofBs P) (by rw [ofBs_size]; omega)).mono ?_
     rintro e wa ⟨rfl,ba⟩
     have Fa : HoldsF (w.heap.size + 1) P wa:=h9.below ba
     have Ba:=belowCall B9 ba
     rw [bs_ofBs P hlt8]
     have hdl : (ofBs (Sha.digest P)).size = 32:=by rw [ofBs_size,digest_length]
     have hdb : bs (ofBs (Sha.digest P)) = Sha.digest P:=bs_ofBs _ (digest_lt P)
     clear B9 l9 h9 ba
     go_wp2_with fail
     refine (putsF_any _ P (ofBs (Sha.digest P)) wa Fa (by omega)).mono ?_
     rintro e wb ⟨rfl,hb,bb⟩
     rw [hdb] at hb
     have Bb:=Ba.trans (bb.mono (Nat.le_succ _))
     clear Fa Ba bb
     go_wp2_with fail
     refine (tellF_any _ _ wb hb (fun x hx=>?_)).mono ?_
     ·rcases List.mem_append.1 hx with hx | hx
      ·exact hlt8 x hx
      ·exact digest_lt P x hx
     rintro e wc ⟨rfl,hc,bc⟩
     have Bc:=Bb.trans (bc.mono (Nat.le_succ _))
     clear Bb bc hc hb
     go_wp2_with fail
     go_ret
     exact ⟨by rw [HD.out]; rfl,Bc⟩
end Go.Proofs.YteapbbaollmniaaGreatDoor.H
