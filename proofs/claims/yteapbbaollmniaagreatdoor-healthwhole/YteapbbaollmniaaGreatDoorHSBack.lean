/- The document's Decode. -/
import Derived.Test.YteapbbaollmniaaGreatDoorCCDec
import Derived.Test.YteapbbaollmniaaGreatDoorWW11
import Derived.Test.YteapbbaollmniaaGreatDoorHSRead
namespace Go.Proofs.YteapbbaollmniaaGreatDoor.C
open Go.RowKit
/-- what Decode answers, as an ending -/
def DecAns (K N : Int) (zs : List Int) (ps : List (List Nat)) (w w' : World) (e : Ending) : Prop:=∃ s er,e = .returned (.tuple #[.string (ofBs s),.int .i64 er]) /\ DecIs K N zs ps s er /\ Below w.heap.size w w'
end Go.Proofs.YteapbbaollmniaaGreatDoor.C
/- Decode and Rebuild, the program's and the document's; CodeDecodes. -/
namespace Go.Proofs.YteapbbaollmniaaGreatDoor.C
open Go.RowKit
theorem decode_any (K N : Int) (vz vp : Value) (zs : List Int) (ps : List (List Nat)) (w : World) (hz : Ints64 w vz zs) (hp : Strs w vp ps) :
  Calls Tryz.prog 37 #[cv K N,vz,vp] w fun e w'=>DecAns K N zs ps w w' e:=by
 have bA : Below w.heap.size w (w.alloc (.cells #[.int .i64 K,.int .i64 N] 23)):=(Below.refl _ _).alloc (Nat.le_refl _) _
 have hw:=whole_any K N vz vp zs ps _ ⟨hz.1.below bA,hz.2⟩ (hp.below bA)
 unfold cv at hw ⊢
 go_enter Tryz.func37,Tryz.ntmps37
 go_wp2_with fail
 refine hw.mono ?_
 rintro e w1 ⟨s,r,er,rfl,hd,_,b1⟩
 have HD:=hid hd
 clear hd
 go_wp2_with fail
 go_ret2
 exact ⟨s,er,rfl,HD.out,belowCall bA b1⟩
/-- what Rebuild answers -/
def RebIs (K N : Int) (zs : List Int) (ps : List (List Nat)) (x : Int) (s : List Nat) (er : Int) : Prop :=
 (¬ (Mx.mayC K N = true /\ 0 <= x /\ x < N) /\ s = [] /\ er = 1) \/ ((Mx.mayC K N = true /\ 0 <= x /\ x < N) /\ ∃ b e,DecIs K N zs ps b e /\ ((e ≠ 0 /\ s = [] /\ er = e) \/ (e = 0 /\ s = payL K.toNat b x.toNat /\ er = 0)))
theorem RebIs.one {K N : Int} {zs : List Int} {ps : List (List Nat)} {x : Int} {s s' : List Nat} {er er' : Int} (h : RebIs K N zs ps x s er) (h' : RebIs K N zs ps x s' er') : s = s' /\ er = er':=by
 rcases h with ⟨a,rfl,rfl⟩ | ⟨a,b,e,d,c⟩
 ·rcases h' with ⟨a',rfl,rfl⟩ | ⟨a',_⟩
  ·exact ⟨rfl,rfl⟩
  ·exact absurd a' a
 ·rcases h' with ⟨a',_⟩ | ⟨_,b',e',d',c'⟩
  ·exact absurd a a'
  ·obtain ⟨rfl,rfl⟩:=d.one d'
   rcases c with ⟨c,rfl,rfl⟩ | ⟨c,rfl,rfl⟩
   ·rcases c' with ⟨_,rfl,rfl⟩ | ⟨c',_⟩
    ·exact ⟨rfl,rfl⟩
    ·exact absurd c' c
   ·rcases c' with ⟨c',_⟩ | ⟨_,rfl,rfl⟩
    ·exact absurd c c'
    ·exact ⟨rfl,rfl⟩
def RebAns (K N : Int) (zs : List Int) (ps : List (List Nat)) (x : Int) (w w' : World) (e : Ending) : Prop:=∃ s er,e = .returned (.tuple #[.string (ofBs s),.int .i64 er]) /\ RebIs K N zs ps x s er /\ (∀ y ∈ s,y < 256) /\ Below w.heap.size w w'
theorem RebAns.refused {K N : Int} {zs : List Int} {ps : List (List Nat)} {x : Int} {w w' : World} {e : Ending} {er : Int} (he : e = .returned (.tuple #[.string ⟨#[]⟩,.int .i64 er])) (hd : RebIs K N zs ps x [] er) (hb : Below w.heap.size w w') : RebAns K N zs ps x w w' e :=
 ⟨[],er,he,hd,by simp,hb⟩
theorem DecIs.zero {K N : Int} {zs : List Int} {ps : List (List Nat)} {s : List Nat} {er : Int} (h : DecIs K N zs ps s er) (h0 : er = 0) : PreD K N zs ps /\ IsOf K.toNat zs ps s:=by
 rcases h with ⟨_,_,h⟩ | ⟨_,_,_,h⟩ | ⟨a,_,c⟩
 ·omega
 ·omega
 ·rcases c with ⟨c,_⟩ | ⟨_,_,h⟩
  ·exact ⟨a,c⟩
  ·omega
set_option maxRecDepth 20000 in
theorem rebuild_any (K N x : Int) (vz vp : Value) (zs : List Int) (ps : List (List Nat)) (w : World) (hz : Ints64 w vz zs) (hp : Strs w vp ps) :
  Calls Tryz.prog 41 #[cv K N,vz,vp,.int .i64 x] w fun e w'=>RebAns K N zs ps x w w' e:=by
 have bA : Below w.heap.size w (w.alloc (.cells #[.int .i64 K,.int .i64 N] 23)):=(Below.refl _ _).alloc (Nat.le_refl _) _
 have hbox : Has (w.alloc (.cells #[.int .i64 K,.int .i64 N] 23)) w.heap.size #[.int .i64 K,.int .i64 N] 23:=Has.new w w.heap.size _ 23 rfl
 have hmc:=Mx.mayCode_any K N (w.alloc (.cells #[.int .i64 K,.int .i64 N] 23))
 have HWh : Hid (∀ W,Below w.heap.size w W -> _):=fun W hW=>whole_any K N vz vp zs ps W ⟨hz.1.below hW,hz.2⟩ (hp.below hW)
 have HMn : Hid (∀ W,_):=fun W=>mayNumber_any K N x W
 unfold cv at HWh HMn ⊢
 cases hm : Mx.mayC K N with
 | false =>
  have HD : Hid (RebIs K N zs ps x [] 1):=.inl ⟨fun h=>(by rw [hm] at h; cases h.1),rfl,rfl⟩
  go_enter Tryz.func41,Tryz.ntmps41
  go_wp2_with fail
  refine hmc.mono ?_
  rintro e w1 ⟨rfl,b1⟩
  rw [hm]
  go_wp2_with fail
  go_ret2
  exact RebAns.refused rfl HD.out (belowCall bA b1)
 | true =>
  go_enter Tryz.func41,Tryz.ntmps41
  go_wp2_with fail
  refine hmc.mono ?_
  rintro e w1 ⟨rfl,b1⟩
  rw [hm]
  have B1:=belowCall bA b1
  have hb1:=hbox.below b1 (by simp)
  have hbl:=hb1.lt
  have c0 : w1.cell? ⟨w.heap.size,0,none⟩ = some (.int .i64 K):=hb1.cell 0
  have c1 : w1.cell? ⟨w.heap.size,1,none⟩ = some (.int .i64 N):=hb1.cell 1
  clear b1
  go_wp2_with fail
  refine (HMn.out w1).mono ?_
  rintro e w2 ⟨rfl,b2⟩
  have B2:=belowCall B1 b2
  have hb2:=hb1.below b2 hbl
  clear c0 c1 b2
  have c0 : w2.cell? ⟨w.heap.size,0,none⟩ = some (.int .i64 K):=hb2.cell 0
  have c1 : w2.cell? ⟨w.heap.size,1,none⟩ = some (.int .i64 N):=hb2.cell 1
  by_cases hx : 0 <= x /\ x < N
  ·rw [decide_eq_true hx]
   have HX:=hid hx
   go_wp2_with fail
   refine (HWh.out w2 B2).mono ?_
   rintro e w3 ⟨s,r,er,rfl,hd,hs,b3⟩
   have B3:=belowCall B2 b3
   have HD:=hid hd
   by_cases he : er = 0
   ·obtain ⟨hpre,his⟩:=hd.zero he
    obtain ⟨k,n,rfl,rfl,h1,h2,h3⟩:=mayC_facts hm
    obtain ⟨xx,rfl⟩ : ∃ q : Nat,x = (q : Int):=⟨x.toNat,by omega⟩
    have hstr:=hs he
    have hsl : (encL k n s).length = n:=encL_length _ _ _
    have hstr' : Strs w3 r (encL k n s):=hstr
    obtain ⟨gq,oq,cq,hr,_,hgq,hcq⟩:=hstr'.some (by omega)
    rw [hsl] at hr
    subst hr
    have q0:=hcq xx (by omega)
    rw [encL_get _ _ _ _ (by omega)] at q0
    have HR : Hid (RebIs k n zs ps xx (payL k s xx) 0):=.inr ⟨⟨hm,by omega,by omega⟩,s,er,HD.out,.inr ⟨he,rfl,rfl⟩⟩
    have dx : (xx : Int) < (n : Int):=by omega
    subst he
    clear hd hs hstr hstr' hcq his hpre
    go_wp2_with fail
    go_ret2
    exact ⟨_,0,rfl,HR.out,payL_lt _ _ _,B3⟩
   ·have HR : Hid (RebIs K N zs ps x [] er):=.inr ⟨⟨hm,HX.out⟩,s,er,HD.out,.inl ⟨he,rfl,rfl⟩⟩
    have en : (er != 0) = true:=by simp [he]
    clear hd hs
    go_wp2_with fail
    go_ret2
    exact RebAns.refused rfl HR.out B3
  ·rw [decide_eq_false hx]
   have HD : Hid (RebIs K N zs ps x [] 1):=.inl ⟨fun h=>hx h.2,rfl,rfl⟩
   go_wp2_with fail
   go_ret2
   exact RebAns.refused rfl HD.out B2
end Go.Proofs.YteapbbaollmniaaGreatDoor.C
/- Stripe: the world and what lies beside it; sound. -/
namespace Go.Proofs.YteapbbaollmniaaGreatDoor
open Go.RowKit Go.Maps
open W
variable {w0 w w' : World} {b : Nat} {V V' : Wd} {T : Nat -> Prop}
/-- the world V lies in block b, made since w0; the blocks of T are none of it -/
def WT (w0 w : World) (b : Nat) (V : Wd) (T : Nat -> Prop) : Prop:=∃ S g,IsWd w S b g V /\ (∀ i,S i -> w0.heap.size <= i) /\ Below w0.heap.size w0 w /\ ∀ i,T i -> ¬ S i /\ i < w.heap.size
/-- the blocks of T stand as they stood -/
def Kpt (T : Nat -> Prop) (w w' : World) : Prop:=w.heap.size <= w'.heap.size /\ ∀ i,T i -> w'.heap[i]? = w.heap[i]?
theorem Kpt.refl (T : Nat -> Prop) (w : World) : Kpt T w w:=⟨Nat.le_refl _,fun _ _=>rfl⟩
theorem Kpt.trans {w1 w2 w3 : World} (h : Kpt T w1 w2) (k : Kpt T w2 w3) : Kpt T w1 w3:=⟨Nat.le_trans h.1 k.1,fun i hi=>(k.2 i hi).trans (h.2 i hi)⟩
theorem Kpt.sub {T' : Nat -> Prop} (h : Kpt T w w') (hT : ∀ i,T' i -> T i) : Kpt T' w w':=⟨h.1,fun i hi=>h.2 i (hT i hi)⟩
theorem Kpt.below (h : WT w0 w b V T) (hb : Below w.heap.size w w') : Kpt T w w':=by
 obtain ⟨S,g,_,_,_,h4⟩:=h
 exact ⟨hb.size,fun i hi=>hb.block i (h4 i hi).2⟩
theorem WT.base (h : WT w0 w b V T) : Below w0.heap.size w0 w:=by
 obtain ⟨S,g,_,_,h3,_⟩:=h
 exact h3
theorem WT.lt (h : WT w0 w b V T) : ∀ i,T i -> i < w.heap.size:=by
 obtain ⟨S,g,_,_,_,h4⟩:=h
 exact fun i hi=>(h4 i hi).2
theorem WT.lay (h : WT w0 w b V T) (hl : H.Lay w0) : H.Lay w:=hl.below h.base
theorem WT.sub {T' : Nat -> Prop} (h : WT w0 w b V T) (hT : ∀ i,T' i -> T i) : WT w0 w b V T':=by
 obtain ⟨S,g,h1,h2,h3,h4⟩:=h
 exact ⟨S,g,h1,h2,h3,fun i hi=>h4 i (hT i hi)⟩
theorem WT.below (h : WT w0 w b V T) (hb : Below w.heap.size w w') : WT w0 w' b V T:=by
 obtain ⟨S,g,h1,h2,h3,h4⟩:=h
 exact ⟨S,g,h1.below hb,h2,h3.trans (hb.mono h3.size),fun i hi=>⟨(h4 i hi).1,Nat.lt_of_lt_of_le (h4 i hi).2 hb.size⟩⟩
/-- what was made since is none of it -/
theorem WT.new (h : WT w0 w b V T) (hb : Below w.heap.size w w') : WT w0 w' b V (fun i=>T i \/ (w.heap.size <= i /\ i < w'.heap.size)):=by
 obtain ⟨S,g,h1,h2,h3,h4⟩:=h
 refine ⟨S,g,h1.below hb,h2,h3.trans (hb.mono h3.size),fun i hi=>?_⟩
 rcases hi with hi | hi
 ·exact ⟨(h4 i hi).1,Nat.lt_of_lt_of_le (h4 i hi).2 hb.size⟩
 ·exact ⟨fun hS=>by have:=h1.bound i hS; omega,hi.2⟩
theorem WT.go (h : WT w0 w b V T) : ∃ S g,IsWd w S b g V /\ (∀ i,S i -> w0.heap.size <= i) /\ ∀ w' V',AfterW w w' S b g V' -> WT w0 w' b V' T /\ Kpt T w w':=by
 obtain ⟨S,g,h1,h2,h3,h4⟩:=h
 refine ⟨S,g,h1,h2,fun w' V' ⟨S',a1,a2,a3⟩=>⟨⟨S',g,a1,fun i hi=>?_,h3.trans (a3.below h3.size h2),fun i hi=>⟨fun hS=>?_,Nat.lt_of_lt_of_le (h4 i hi).2 a3.size⟩⟩,a3.size,fun i hi=>a3.block i (h4 i hi).2 (h4 i hi).1⟩⟩
 ·rcases a2 i hi with h | h
  ·exact h2 i h
  ·exact Nat.le_trans h3.size h
 ·rcases a2 i hS with h | h
  ·exact (h4 i hi).1 h
  ·have:=(h4 i hi).2
   omega
theorem WT.n (h : WT w0 w b V T) : Calls Tryz.prog 61 #[ptr b] w fun e w'=>e = .returned (.int .i64 (V.l.length : Int)) /\ w' = w:=by
 obtain ⟨S,g,h1,_⟩:=h
 exact n_any h1
theorem WT.get (h : WT w0 w b V T) (hc : V.calls <= 1000000) (hl : V.left < 9223372036854775808) (i : Int) (n : ByteArray) (hn : n.size <= 1000000) : Calls Tryz.prog 73 #[ptr b,.int .i64 i,.string n] w fun e w'=>e = .returned (.tuple #[.string (getW V i n).1,er (getW V i n).2]) /\ WT w0 w' b (askW V i) T /\ Kpt T w w':=by
 obtain ⟨S,g,h1,_,k⟩:=h.go
 exact (wget_any h1 hc hl i n hn).mono fun _ _ ⟨e1,e2⟩=>⟨e1,k _ _ e2⟩
theorem WT.put (h : WT w0 w b V T) (hc : V.calls <= 1000000) (hl : V.left < 9223372036854775808) {N : Nat} (hF : ∀ x ∈ V.l,Fit N x.st) (hN : N <= 1000000) (i : Int) (n d : ByteArray) : Calls Tryz.prog 43 #[ptr b,.int .i64 i,obv n d] w fun e w'=>e = .returned (er (askS V i fun s=>putS s n d).1) /\ WT w0 w' b (askS V i fun s=>putS s n d).2 T /\ Kpt T w w':=by
 obtain ⟨S,g,h1,_,k⟩:=h.go
 exact (wput_any h1 hc hl hF hN i n d).mono fun _ _ ⟨e1,e2⟩=>⟨e1,k _ _ e2⟩
theorem WT.sync (h : WT w0 w b V T) (hc : V.calls <= 1000000) (hl : V.left < 9223372036854775808) (i : Int) : Calls Tryz.prog 44 #[ptr b,.int .i64 i] w fun e w'=>e = .returned (er (askS V i W.sync).1) /\ WT w0 w' b (askS V i W.sync).2 T /\ Kpt T w w':=by
 obtain ⟨S,g,h1,_,k⟩:=h.go
 exact (wsync_any h1 hc hl i).mono fun _ _ ⟨e1,e2⟩=>⟨e1,k _ _ e2⟩
/-- a block of T holds what it held -/
theorem Kpt.has (h : Kpt T w w') {q : Nat} (hq : T q) {cs : Array Value} {t : TypeId} (hh : Has w q cs t) : Has w' q cs t:=by
 have:=h.2 q hq
 unfold Has at *
 rw [this]
 exact hh
theorem neq25 (w : World) (a b c d : Int) : (binOp .neq 23 (.agg #[.int .i64 a,.int .i64 b]) (.agg #[.int .i64 c,.int .i64 d])).run Tryz.prog w = .ok (.bool (!(decide (a = c) && decide (b = d)))) w:=by
 by_cases h1 : a = c
 ·subst h1
  by_cases h2 : b = d
  ·subst h2; simp [go_sem]
  ·simp [go_sem,h2]
 ·simp [go_sem,h1]
/-- the payload of what a store has under its shard's name, and whether that is sound -/
def snd (K N : Int) (a s : ByteArray) : ByteArray × Bool:=if H.rdOk a s = true /\ H.fB s 4 = K /\ H.fB s 5 = N then (H.fP s,true) else (⟨#[]⟩,false)
end Go.Proofs.YteapbbaollmniaaGreatDoor
/- More of the elder texts. Printed by more.py. -/
/- What several texts need: gathered. -/
namespace Go.Proofs.YteapbbaollmniaaGreatDoor.W
open Go.RowKit Go.Maps
section
variable {ev : Operand -> Value} {o : Oper} {w : World} {x y z : Operand}
end
theorem counted_eq (s : St) : (counted s).2 = { s with refuse:=(counted s).2.refuse }:=by
 unfold counted; split <;> (cases s; simp_all)
theorem counted_refuse (s : St) : ((counted s).1 = false /\ s.refuse = none /\ (counted s).2.refuse = none) \/ (∃ m,(counted s).1 = false /\ s.refuse = some (m + 1) /\ (counted s).2.refuse = some m) \/ ((counted s).1 = true /\ s.refuse = some 0 /\ (counted s).2.refuse = none):=by
 unfold counted
 cases h : s.refuse with
 | none=>exact .inl ⟨rfl,rfl,h⟩
 | some n=>cases n with
  | zero=>exact .inr (.inr ⟨rfl,rfl,rfl⟩)
  | succ m=>exact .inr (.inl ⟨m,rfl,rfl,rfl⟩)
/-- what a write that was tried did -/
inductive Did (s : St) (n : ByteArray) (c : Option ByteArray) : Int -> St -> Prop
 | ok (r : Option Nat) (h : (s.refuse = none /\ r = none) \/ ∃ m,s.refuse = some (m + 1) /\ r = some m) : Did s n c 0 { s with refuse:=r,live:=s.live || c.isSome,seen:=setC n c s.seen,writes:=s.writes ++ [⟨n,look n s.seen,c⟩] }
 | no (h : s.refuse = some 0) : Did s n c 53 { s with refuse:=none }
theorem tried_did (s : St) (n : ByteArray) (c : Option ByteArray) : Did s n c (tried s n c).1 (tried s n c).2:=by
 have e:=counted_eq s
 rcases counted_refuse s with ⟨h1,h2,h3⟩ | ⟨m,h1,h2,h3⟩ | ⟨h1,h2,h3⟩
 ·unfold tried
  rw [h1,e,h3]
  exact Did.ok none (.inl ⟨h2,rfl⟩)
 ·unfold tried
  rw [h1,e,h3]
  exact Did.ok (some m) (.inr ⟨m,h2,rfl⟩)
 ·unfold tried
  rw [h1,e,h3]
  exact Did.no h2
theorem setC_len (n : ByteArray) (c : Option ByteArray) (M : List Ob) : (setC n c M).length <= M.length + 1:=by
 have h1 : ∀ n,(drop n M).length <= M.length:=fun n=>List.length_filter_le _ _
 cases c with
 | none=>exact Nat.le_succ_of_le (h1 n)
 | some d =>
  have h2 : ∀ (o : Ob) (L : List Ob),(ins o L).length = L.length + 1:=fun o L=>by
   induction L with
   | nil=>rfl
   | cons p r ih=>unfold ins; split <;> simp [ih]
  show (put (n,d) M).length <= _
  unfold put
  rw [h2]
  have:=h1 n
  show (drop n M).length + 1 <= _
  omega
theorem mem_setC' {n : ByteArray} {c : Option ByteArray} {M : List Ob} {p : Ob} (h : p ∈ setC n c M) : p ∈ M \/ (p.1 = n /\ c = some p.2):=by
 cases c with
 | none=>exact .inl (mem_drop.1 h).1
 | some d =>
  rcases mem_put.1 h with rfl | h
  ·exact .inr ⟨rfl,rfl⟩
  ·exact .inl h.1
theorem look_mem {n d : ByteArray} {M : List Ob} (h : look n M = some d) : ∃ p ∈ M,p.1 = n /\ p.2 = d:=by
 unfold look at h
 cases hf : M.find? (fun p=>decide (p.1 = n)) with
 | none=>rw [hf] at h; cases h
 | some p =>
  rw [hf] at h
  exact ⟨p,List.mem_of_find?_eq_some hf,by simpa using List.find?_some hf,by simpa using h⟩
theorem look_size {n : ByteArray} {M : List Ob} {K : Nat} (h : ∀ p ∈ M,p.2.size <= K) : ((look n M).getD ⟨#[]⟩).size <= K:=by
 cases hl : look n M with
 | none=>exact Nat.zero_le _
 | some d=>obtain ⟨p,hp,_,rfl⟩:=look_mem hl; exact h p hp
theorem Did.fit {s : St} {n : ByteArray} {c : Option ByteArray} {e : Int} {s' : St} (h : Did s n c e s') {N : Nat} (hF : Fit N s) (hn : n.size <= 80) (hc : (c.getD ⟨#[]⟩).size <= 65536) : Fit (N + 1) s':=by
 cases h with
 | no h=>exact ⟨Nat.le_succ_of_le hF.seen,Nat.le_succ_of_le hF.writes,hF.names,hF.datas,hF.wnames,hF.was,hF.now,fun k hk=>(by cases hk),hF.room⟩
 | ok r h =>
  refine ⟨Nat.le_trans (setC_len _ _ _) (Nat.succ_le_succ hF.seen),?_,?_,?_,?_,?_,?_,?_,hF.room⟩
  ·have:=hF.writes; simp; omega
  ·intro p hp
   rcases mem_setC' hp with h | ⟨h,_⟩
   ·exact hF.names p h
   ·rw [h]; exact hn
  ·intro p hp
   rcases mem_setC' hp with h | ⟨_,h⟩
   ·exact hF.datas p h
   ·rw [h] at hc; exact hc
  ·intro q hq
   rcases List.mem_append.1 hq with h | h
   ·exact hF.wnames q h
   ·rw [List.mem_singleton] at h; subst h; exact hn
  ·intro q hq
   rcases List.mem_append.1 hq with h | h
   ·exact hF.was q h
   ·rw [List.mem_singleton] at h; subst h; exact look_size hF.datas
  ·intro q hq
   rcases List.mem_append.1 hq with h | h
   ·exact hF.now q h
   ·rw [List.mem_singleton] at h; subst h; exact hc
  ·intro k hk
   rcases h with ⟨_,h⟩ | ⟨m,h1,h⟩
   ·rw [h] at hk; cases hk
   ·rw [h] at hk; cases hk; have:=hF.refuse _ h1; omega
/-- what put did -/
theorem put_did (s : St) (n d : ByteArray) : ((putS s n d).1 ≠ 0 /\ (putS s n d).1 ≠ 53 /\ (putS s n d).2 = s) \/ (n.size <= 80 /\ d.size <= 65536 /\ Did s n (some d) (putS s n d).1 (putS s n d).2):=by
 unfold putS
 by_cases h1 : badName n d = true
 ·rw [if_pos h1]; exact .inl ⟨by simp,by simp,rfl⟩
 ·rw [if_neg h1]
  by_cases h2 : s.down = true
  ·rw [if_pos h2]; exact .inl ⟨by simp,by simp,rfl⟩
  ·rw [if_neg h2]
   by_cases h3 : over s n d = true
   ·rw [if_pos h3]; exact .inl ⟨by simp,by simp,rfl⟩
   ·rw [if_neg h3]
    unfold badName at h1
    simp only [Bool.or_eq_true,decide_eq_true_eq,not_or] at h1
    exact .inr ⟨by omega,by omega,tried_did _ _ _⟩
theorem put_fit {N : Nat} {s : St} (hF : Fit N s) (n d : ByteArray) : Fit (N + 1) (putS s n d).2:=by
 rcases put_did s n d with ⟨_,_,h⟩ | ⟨h1,h2,h⟩
 ·rw [h]; exact hF.more (Nat.le_succ _)
 ·exact h.fit hF h1 h2
end Go.Proofs.YteapbbaollmniaaGreatDoor.W
/- What Make's bytes tell, and what bytes that Read takes must be. No program in it. -/
namespace Go.Proofs.YteapbbaollmniaaGreatDoor.H
open Go.RowKit
theorem pre_length (k n j : Nat) (d p : List Nat) : (pre k n j d p).length = 11 + d.length + p.length:=by
 unfold pre be4; simp; omega
theorem pre_lt {k n j : Nat} {d p : List Nat} (hk : k < 256) (hn : n < 256) (hj : j < 256) (hd : ∀ x ∈ d,x < 256) (hp : ∀ x ∈ p,x < 256) : ∀ x ∈ pre k n j d p,x < 256:=by
 intro x hx
 unfold pre be4 at hx
 simp only [List.mem_append,List.mem_cons,List.not_mem_nil,or_false] at hx
 rcases hx with (((hx | hx) | hx) | hx) | hx
 ·omega
 ·omega
 ·omega
 ·exact hd x hx
 ·exact hp x hx
theorem dat_lt {k n j : Nat} {d p : List Nat} (hk : k < 256) (hn : n < 256) (hj : j < 256) (hd : ∀ x ∈ d,x < 256) (hp : ∀ x ∈ p,x < 256) : ∀ x ∈ dat k n j d p,x < 256:=by
 intro x hx
 unfold dat at hx
 rcases List.mem_append.1 hx with hx | hx
 ·exact pre_lt hk hn hj hd hp x hx
 ·exact digest_lt _ x hx
theorem dat_length (k n j : Nat) (d p : List Nat) : (dat k n j d p).length = 43 + d.length + p.length:=by
 unfold dat; rw [List.length_append,pre_length,digest_length]; omega
/-- a shard's bytes, and its fields out of them -/
structure IsD (k n j : Nat) (d p s : ByteArray) : Prop where
 hk : k < 256
 hn : n < 256
 hj : j < 256
 hd : d.size = 32
 hs : s = ofBs (dat k n j (bs d) (bs p))
theorem IsD.bytes {k n j : Nat} {d p s : ByteArray} (h : IsD k n j d p s) : bs s = dat k n j (bs d) (bs p):=by
 rw [h.hs]; exact bs_ofBs _ (dat_lt h.hk h.hn h.hj (bs_lt d) (bs_lt p))
theorem IsD.size {k n j : Nat} {d p s : ByteArray} (h : IsD k n j d p s) : s.size = 75 + p.size:=by
 rw [<- bs_length,h.bytes,dat_length,bs_length,bs_length,h.hd]
theorem mid_take (A B C : List Nat) : ((A ++ (B ++ C)).take (A.length + B.length)).drop A.length = B:=by
 rw [List.take_append,List.drop_append]
 simp
theorem IsD.head {k n j : Nat} {d p s : ByteArray} (h : IsD k n j d p s) : bs s = [115,104,100,49,k,n,j] ++ (be4 p.size ++ (bs d ++ (bs p ++ Sha.digest (pre k n j (bs d) (bs p))))):=by
 rw [h.bytes]; unfold dat
 generalize Sha.digest (pre k n j (bs d) (bs p)) = D
 unfold pre
 rw [bs_length]; simp
theorem IsD.b4 {k n j : Nat} {d p s : ByteArray} (h : IsD k n j d p s) : fB s 4 = k /\ fB s 5 = n /\ fB s 6 = j:=by
 unfold fB; rw [h.head]; exact ⟨rfl,rfl,rfl⟩
theorem IsD.fd {k n j : Nat} {d p s : ByteArray} (h : IsD k n j d p s) : fD s = d:=by
 apply bs_inj
 unfold fD
 have hd:=h.head
 have hdl : (bs d).length = 32:=by rw [bs_length,h.hd]
 have hl : ([115,104,100,49,k,n,j] ++ be4 p.size).length = 11:=by simp [be4]
 rw [<- List.append_assoc] at hd
 have:=mid_take ([115,104,100,49,k,n,j] ++ be4 p.size) (bs d) (bs p ++ Sha.digest (pre k n j (bs d) (bs p)))
 rw [hl,hdl,<- hd] at this
 rw [bs_extract]; exact this
theorem IsD.fp {k n j : Nat} {d p s : ByteArray} (h : IsD k n j d p s) : fP s = p:=by
 apply bs_inj
 unfold fP
 have hd:=h.head
 have hdl : (bs d).length = 32:=by rw [bs_length,h.hd]
 have hl : (([115,104,100,49,k,n,j] ++ be4 p.size) ++ bs d).length = 43:=by simp [be4,hdl]
 rw [<- List.append_assoc,<- List.append_assoc] at hd
 have:=mid_take (([115,104,100,49,k,n,j] ++ be4 p.size) ++ bs d) (bs p) (Sha.digest (pre k n j (bs d) (bs p)))
 rw [hl,bs_length,<- hd] at this
 rw [bs_extract,show s.size - 32 = 43 + p.size by have:=h.size; omega]; exact this
/-- what Make makes of a shard that may be -/
theorem mk_is {K N : Int} {d : ByteArray} {i : Int} {p : ByteArray} (h : mkE K N d i p = 0) : IsD K.toNat N.toNat i.toNat d p (mkD K N d i p) /\ mkN K N d i p = ofBs (nm (bs d) i) /\ p.size <= 65461 /\ (K.toNat : Int) = K /\ (N.toNat : Int) = N /\ (i.toNat : Int) = i /\ 0 <= i /\ i < 12:=by
 have hN : mkN K N d i p = ofBs (nm (bs d) i):=by unfold mkN; rw [if_pos h]
 have hD : mkD K N d i p = ofBs (dat K.toNat N.toNat i.toNat (bs d) (bs p)):=by unfold mkD; rw [if_pos h]
 unfold mkE at h
 split at h
 ·rename_i hok
  split at h
  ·rename_i hp
   unfold okS okC at hok
   simp only [Bool.and_eq_true,decide_eq_true_eq] at hok
   obtain ⟨⟨⟨⟨h1,h2⟩,h3⟩,h4⟩,h5,h6⟩:=hok
   exact ⟨⟨by omega,by omega,by omega,h4,hD⟩,hN,hp,by omega,by omega,by omega,by omega,by omega⟩
  ·cases h
 ·cases h
/-- READ OF MAKE. -/
theorem rd_mk {K N : Int} {d : ByteArray} {i : Int} {p : ByteArray} (h : mkE K N d i p = 0) : rdOk (mkN K N d i p) (mkD K N d i p) = true /\ fB (mkD K N d i p) 4 = K /\ fB (mkD K N d i p) 5 = N /\ fD (mkD K N d i p) = d /\ fB (mkD K N d i p) 6 = i /\ fP (mkD K N d i p) = p:=by
 obtain ⟨hI,hN,hp,e1,e2,e3,_,_⟩:=mk_is h
 obtain ⟨f1,f2,f3⟩:=hI.b4
 rw [e1] at f1
 rw [e2] at f2
 rw [e3] at f3
 have f4:=hI.fd
 have f5:=hI.fp
 refine ⟨?_,f1,f2,f4,f3,f5⟩
 unfold rdOk
 rw [f1,f2,f3,f4,f5]
 simp only [Bool.and_eq_true,decide_eq_true_eq]
 exact ⟨by rw [hI.size]; omega,h,trivial,trivial⟩
end Go.Proofs.YteapbbaollmniaaGreatDoor.H
