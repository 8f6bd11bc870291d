/- Small facts on blocks of memory: what a block holds, and that it holds it still. No program in it. -/
import Derived.WalkKit
import Derived.WalkSpells
import Derived.WalkLawsBesides
import Derived.Deep.MidRow
import Derived.Test.YteapbbaollmniaaGreatDoorProg
import Derived.Test.YteapbbaollmniaaGreatDoorCNum
import Derived.Laws.BitsAllLaws
import Derived.KernelRfl
import Derived.Deep.QuietTactic
import Derived.BigQuiet
import Derived.Laws.ShiftsVar
import Derived.Laws.ShiftsVarLaws
namespace Go.Proofs.YteapbbaollmniaaGreatDoor.C
open Go.RowKit
/-- block b holds these cells, all of which may be written -/
def Has (w : World) (b : Nat) (cs : Array Value) (t : TypeId) : Prop:=w.heap[b]? = some (.cells cs t (0,0))
theorem Has.lt {w : World} {b : Nat} {cs : Array Value} {t : TypeId} (h : Has w b cs t) : b < w.heap.size:=by
 unfold Has at h; exact (Array.getElem?_eq_some_iff.1 h).1
theorem Has.cell {w : World} {b : Nat} {cs : Array Value} {t : TypeId} (h : Has w b cs t) (i : Nat) : w.cell? ⟨b,i,none⟩ = cs[i]?:=by
 unfold Has at h
 simp [World.cell?,h]
theorem Has.frozen {w : World} {b : Nat} {cs : Array Value} {t : TypeId} (h : Has w b cs t) (i : Nat) : w.frozen? ⟨b,i,none⟩ = false:=by
 unfold Has at h
 simp [World.frozen?,h]
theorem Has.set {w : World} {b : Nat} {cs : Array Value} {t : TypeId} (h : Has w b cs t) (i : Nat) (v : Value) : Has (w.setCell ⟨b,i,none⟩ v) b (cs.setIfInBounds i v) t:=by
 have hl:=h.lt
 unfold Has at h ⊢
 simp [World.setCell,Array.getElem?_modify,h]
theorem Has.other {w : World} {b : Nat} {cs : Array Value} {t : TypeId} (h : Has w b cs t) (a : Addr) (v : Value) (hne : b ≠ a.block) : Has (w.setCell a v) b cs t:=by
 unfold Has at h ⊢
 rw [Below.heap_setCell _ _ _ _ hne]; exact h
theorem Has.alloc {w : World} {b : Nat} {cs : Array Value} {t : TypeId} (h : Has w b cs t) (o : Obj) : Has (w.alloc o) b cs t:=by
 have hl:=h.lt
 unfold Has at h ⊢
 rw [Below.heap_alloc _ _ _ hl]; exact h
theorem Has.new (w : World) (b : Nat) (cs : Array Value) (t : TypeId) (hb : b = w.heap.size) : Has (w.alloc (.cells cs t)) b cs t:=by
 subst hb
 unfold Has World.alloc; simp
theorem Has.drew {w : World} {b : Nat} {cs : Array Value} {t : TypeId} (h : Has w b cs t) : Has w.drew b cs t:=h
theorem Has.below {w w' : World} {B b : Nat} {cs : Array Value} {t : TypeId} (h : Has w b cs t) (hb : Below B w w') (hl : b < B) : Has w' b cs t:=by
 unfold Has at h ⊢; rw [hb.block b hl]; exact h
theorem below_setCells {B b : Nat} {a : World} (hb : B <= b) : ∀ (vs : List Value) (o : Nat) {w : World},Below B a w -> Below B a (w.setCells b o vs)
 | [],_,_,h=>h
 | v :: r,o,_,h=>by
  rw [World.setCells]
  exact below_setCells hb r (o + 1) (h.setCell hb v)
theorem has_setCells_mid {b : Nat} {t : TypeId} : ∀ (vs : List Value) (o : Nat) (cs : List Value) {w : World},Has w b cs.toArray t -> o + vs.length <= cs.length -> Has (w.setCells b o vs) b (cs.take o ++ vs ++ cs.drop (o + vs.length)).toArray t
 | [],o,cs,w,h,_=>by simpa [World.setCells] using h
 | v :: r,o,cs,w,h,hl=>by
  rw [World.setCells]
  have h1:=h.set o v
  rw [List.setIfInBounds_toArray] at h1
  have h2:=has_setCells_mid r (o + 1) (cs.set o v) h1 (by simp at hl ⊢; omega)
  have e : (cs.set o v).take (o + 1) ++ r ++ (cs.set o v).drop (o + 1 + r.length) = cs.take o ++ (v :: r) ++ cs.drop (o + (v :: r).length):=by
   have ho : o < cs.length:=by simp at hl; omega
   have e1 : (cs.set o v).take (o + 1) = cs.take o ++ [v]:=by
    rw [List.take_succ_eq_append_getElem (by simpa using ho),List.take_set_of_le (Nat.le_refl _)]
    simp
   have e2 : (cs.set o v).drop (o + 1 + r.length) = cs.drop (o + (v :: r).length):=by
    rw [List.drop_set_of_lt (by omega)]; congr 1; simp; omega
   rw [e1,e2]; simp
  rw [e] at h2; exact h2
theorem has_setRow {b : Nat} {t : TypeId} {w : World} {cs vs : Array Value} (h : Has w b cs t) (hl : vs.size = cs.size) : Has (w.setCells b 0 vs.toList) b vs t:=by
 have h1:=has_setCells_mid vs.toList 0 cs.toList (by simpa using h) (by simp [hl])
 have e : List.take 0 cs.toList ++ vs.toList ++ List.drop (0 + vs.toList.length) cs.toList = vs.toList:=by
  rw [List.take_zero,List.drop_eq_nil_of_le (by simp [hl])]; simp
 rw [e] at h1; simpa using h1
theorem below_draws {B : Nat} {w w' : World} (h : Below B w w') (n : Nat) : Below B w (w'.drewN n):=⟨h.os,h.tape,h.output,h.size,h.block⟩
end Go.Proofs.YteapbbaollmniaaGreatDoor.C
/- Rows of numbers as cells; a field in memory. -/
namespace Go.Proofs.YteapbbaollmniaaGreatDoor.C
open Go.RowKit
theorem ret_int {k : IntKind} {a b : Int} (h : a = b) : Ending.returned (.int k a) = .returned (.int k b):=by rw [h]
theorem wrap_i64_of {n : Int} (h1 : -9223372036854775808 <= n) (h2 : n <= 9223372036854775807) : IntKind.i64.wrap n = n:=by
 simp [IntKind.wrap,IntKind.bits,IntKind.signed]; omega
def U8s (b : List Nat) : Array Value:=(b.map fun x : Nat=>Value.int .u8 (x : Int)).toArray
theorem U8s_size (b : List Nat) : (U8s b).size = b.length:=by simp [U8s]
theorem U8s_get (b : List Nat) (i : Nat) (h : i < b.length) : (U8s b)[i]? = some (.int .u8 ((b.getD i 0 : Nat) : Int)):=by
 simp [U8s,List.getD_eq_getElem?_getD,List.getElem?_eq_getElem h]
theorem U8s_set (b : List Nat) (i x : Nat) : (U8s b).setIfInBounds i (.int .u8 (x : Int)) = U8s (b.set i x):=by
 simp [U8s,List.map_set]
theorem cellsAt_length (n : Nat) : (Fld.cellsAt n).length = 511:=by
 induction n with
 | zero=>exact List.length_replicate
 | succ n ih=>simp [Fld.cellsAt,ih]
theorem belowCall {w W W' : World} (h : Below w.heap.size w W) (hb : Below W.heap.size W W') : Below w.heap.size w W':=h.trans (hb.mono h.size)
theorem zero79 (w : World) : (zeroValue 261).run Tryz.prog w = .ok (.agg (U8s (Fld.cellsAt 0))) w:=by kernel_rfl
theorem i64_xor_nat (a b : Nat) (ha : a < 2 ^ 63) (hb : b < 2 ^ 63) : bits .xor .i64 (a : Int) (b : Int) = ((a ^^^ b : Nat) : Int):=by
 have hx : a ^^^ b < 2 ^ 63:=Nat.xor_lt_two_pow ha hb
 show IntKind.i64.wrap ((BitVec.ofInt 64 (a : Int) ^^^ BitVec.ofInt 64 (b : Int)).toNat : Int) = _
 rw [BitVec.toNat_xor,BitVec.ofInt_natCast,BitVec.ofInt_natCast,BitVec.toNat_ofNat,BitVec.toNat_ofNat,Nat.mod_eq_of_lt (by omega),Nat.mod_eq_of_lt (by omega)]
 exact wrap_i64_of (by omega) (by omega)
end Go.Proofs.YteapbbaollmniaaGreatDoor.C
/- The contract of New: a field in memory, in a block of its own. -/
namespace Go.Proofs.YteapbbaollmniaaGreatDoor.C
open Go.RowKit
set_option maxRecDepth 20000 in
theorem new_any (w : World) :
  Calls Tryz.prog 155 #[] w fun e w'=>e = .returned (.pointer (some ⟨w.heap.size,0,none⟩)) /\ Has w' w.heap.size (U8s (Fld.cellsAt 255)) 261 /\ Below w.heap.size w w':=by
 obtain ⟨Z,hz,hZ⟩ : ∃ Z,(zeroValue 261).run Tryz.prog w = .ok (.agg Z) w /\ Hid (Z = U8s (Fld.cellsAt 0)):=⟨_,zero79 w,rfl⟩
 go_enter Tryz.func155,Tryz.ntmps155
 go_wp2_with fail
 go_loopw [2,6] (fun vp vi wr=>∃ k : Nat,k <= 255 /\ vi = .int .i64 (k : Int) /\ vp = .int .i64 ((Fld.pw k : Nat) : Int) /\ Has wr w.heap.size (U8s (Fld.cellsAt k)) 261 /\ Below w.heap.size w wr) (fun _ vi _=>255 - (intOf vi).toNat)
 case atStart =>
  refine ⟨0,by omega,rfl,rfl,?_,(Below.refl _ _).alloc (Nat.le_refl _) _⟩
  rw [<- hZ.out]; exact Has.new _ _ _ _ rfl
 case round =>
  obtain ⟨k,hk,rfl,rfl,h1,hbl⟩:=hrel
  clear hz hZ
  by_cases hlt : k < 255
  ·have hp : Fld.pw k < 256:=by rw [Fld.pw_pwr hlt]; exact Fld.pwr_lt hlt
   have HS : Hid (U8s (Fld.cellsAt (k + 1)) = ((U8s (Fld.cellsAt k)).setIfInBounds k (.int .u8 ((Fld.pw k : Nat) : Int))).setIfInBounds (255 + Fld.pw k) (.int .u8 (k : Int))):=by
    unfold Hid; rw [U8s_set,U8s_set]; rfl
   have HD : Hid (Fld.pw (k + 1) = (if 256 <= Fld.pw k * 2 then (Fld.pw k * 2) ^^^ 285 else Fld.pw k * 2)):=(Fld.dbl_facts0 ⟨Fld.pw k,hp⟩).2
   have c0:=(h1.cell k).trans (U8s_get _ k (by rw [cellsAt_length]; omega))
   have f0:=h1.frozen k
   have h2:=h1.set k (.int .u8 ((Fld.pw k : Nat) : Int))
   have c1 : (wr.setCell ⟨w.heap.size,k,none⟩ (.int .u8 ((Fld.pw k : Nat) : Int))).cell? ⟨w.heap.size,255 + Fld.pw k,none⟩ = some (.int .u8 (((Fld.cellsAt k).getD (255 + Fld.pw k) 0 : Nat) : Int)):=by
    rw [h2.cell,Array.getElem?_setIfInBounds_ne (by omega)]; exact U8s_get _ _ (by rw [cellsAt_length]; omega)
   have f1:=h2.frozen (255 + Fld.pw k)
   generalize Fld.pw k = p at *
   have b0 : (k : Int) < 255:=by omega
   have b1 : (p : Int) < 256:=by omega
   have e1 : IntKind.u8.wrap (p : Int) = (p : Int):=by rw [IntKind.wrap_u8']; omega
   have e2 : IntKind.u8.wrap (k : Int) = (k : Int):=by rw [IntKind.wrap_u8']; omega
   have e3 : IntKind.i64.wrap ((p : Int) * 2) = (p : Int) * 2:=wrap_i64_of (by omega) (by omega)
   have x1 : Hid (bits .xor .i64 ((p : Int) * 2) 285 = ((p * 2 ^^^ 285 : Nat) : Int)):=i64_xor_nat (p * 2) 285 (by omega) (by decide)
   have hfin : Below w.heap.size w (wr.setCell ⟨w.heap.size,k,none⟩ (.int .u8 (p : Int))):=hbl.setCell (Nat.le_refl _) _
   have hfin2 : Below w.heap.size w ((wr.setCell ⟨w.heap.size,k,none⟩ (.int .u8 (p : Int))).setCell ⟨w.heap.size,255 + p,none⟩ (.int .u8 (k : Int))):=hfin.setCell (Nat.le_refl _) _
   have h3:=h2.set (255 + p) (.int .u8 (k : Int))
   rw [<- HS.out] at h3
   by_cases hx : 256 <= p * 2
   ·have d0 : decide ((256 : Int) <= (p : Int) * 2) = true:=by simp; omega
    rw [Hid,if_pos hx] at HD
    have HD' : Hid _:=HD
    clear HD
    go_wp2_with fail
    exact ⟨⟨k + 1,by omega,rfl,by rw [HD'.out,x1.out],h3,hfin2⟩,by simp [intOf]; omega⟩
   ·have d0 : decide ((256 : Int) <= (p : Int) * 2) = false:=by simp; omega
    rw [Hid,if_neg hx] at HD
    have HD' : Hid _:=HD
    clear HD
    go_wp2_with fail
    exact ⟨⟨k + 1,by omega,rfl,by rw [HD'.out]; simp,h3,hfin2⟩,by simp [intOf]; omega⟩
  ·obtain rfl : k = 255:=by omega
   go_wp2_with fail
   go_ret
   exact ⟨rfl,h1,hbl⟩
end Go.Proofs.YteapbbaollmniaaGreatDoor.C
/- The contracts of a field's methods: whether it is nil or was made by New. -/
namespace Go.Proofs.YteapbbaollmniaaGreatDoor.C
open Go.RowKit
def FC : Array Value:=U8s (Fld.cellsAt 255)
set_option maxRecDepth 20000 in
theorem FC_pwr {n : Nat} (h : n < 255) : FC[n]? = some (.int .u8 ((Fld.pwr n : Nat) : Int)):=by
 unfold FC
 rw [U8s_get _ _ (by rw [cellsAt_length]; omega),Fld.cells_end,List.getD_eq_getElem?_getD,List.getElem?_append_left (show n < Fld.powers.length from h),<- List.getD_eq_getElem?_getD]; rfl
set_option maxRecDepth 20000 in
theorem FC_lg {a : Nat} (h : a < 256) : FC[255 + a]? = some (.int .u8 ((Fld.lg a : Nat) : Int)):=by
 unfold FC
 rw [U8s_get _ _ (by rw [cellsAt_length]; omega),Fld.cells_end,List.getD_eq_getElem?_getD,List.getElem?_append_right (show Fld.powers.length <= 255 + a from Nat.le_add_right _ _),show 255 + a - Fld.powers.length = a from Nat.add_sub_cancel_left 255 a,<- List.getD_eq_getElem?_getD]; rfl
/-- a field: nil, or what New makes -/
def IsF (w : World) (v : Value) : Prop:=v = .pointer none \/ ∃ b,v = .pointer (some ⟨b,0,none⟩) /\ Has w b FC 261
theorem orNew_any (v : Value) (w : World) (hf : IsF w v) :
  Calls Tryz.prog 183 #[v] w fun e w'=>∃ b,e = .returned (.pointer (some ⟨b,0,none⟩)) /\ Has w' b FC 261 /\ Below w.heap.size w w':=by
 rcases hf with rfl | ⟨b,rfl,h1⟩
 ·go_enter Tryz.func183,Tryz.ntmps183
  go_wp2_with fail
  refine (new_any w).mono ?_
  rintro e w' ⟨rfl,h,hb⟩
  go_wp2_with fail
  go_ret
  exact ⟨_,rfl,h,hb⟩
 ·go_enter Tryz.func183,Tryz.ntmps183
  go_wp2_with fail
  go_ret
  exact ⟨_,rfl,h1,Below.refl _ _⟩
theorem tmod255 (n : Int) : (Int.tmod n 255 < 0 -> n % 255 = Int.tmod n 255 + 255) /\ (0 <= Int.tmod n 255 -> n % 255 = Int.tmod n 255) /\ -255 < Int.tmod n 255 /\ Int.tmod n 255 < 255:=by
 by_cases h : 0 <= n
 ·rw [Int.tmod_eq_emod_of_nonneg h]; omega
 ·have e : Int.tmod n 255 = -((-n) % 255):=by
   rw [show n = -(-n) by omega,Int.neg_tmod,Int.tmod_eq_emod_of_nonneg (by omega),Int.neg_neg]
  rw [e]; omega
theorem exp_any (v : Value) (n : Int) (w : World) (hf : IsF w v) :
  Calls Tryz.prog 184 #[v,.int .i64 n] w fun e w'=>e = .returned (.int .u8 ((Fld.exp n : Nat) : Int)) /\ Below w.heap.size w w':=by
 obtain ⟨t1,t2,t3,t4⟩:=tmod255 n
 have HE : Hid (Fld.exp n = Fld.pwr (n % 255).toNat):=rfl
 by_cases hs : Int.tmod n 255 < 0
 ·obtain ⟨m,hm⟩ : ∃ m : Nat,Int.tmod n 255 = (m : Int) - 255:=⟨(Int.tmod n 255 + 255).toNat,by omega⟩
  have hm1 : Hid ((n % 255).toNat = m):=by unfold Hid; rw [t1 hs,hm]; omega
  have hm2 : m < 255:=by omega
  have b0 : (m : Int) < 255:=by omega
  have e1 : (m : Int) - 255 + 255 = (m : Int):=by omega
  have d0 : decide ((m : Int) - 255 < 0) = true:=by simp; omega
  clear t1 t2 t3 t4 hs
  go_enter Tryz.func184,Tryz.ntmps184
  go_wp2_with fail
  refine (orNew_any v _ hf).mono ?_
  rintro e w1 ⟨b,rfl,hh,hb⟩
  have c0:=(hh.cell m).trans (FC_pwr hm2)
  go_wp2_with fail
  go_ret
  exact ⟨by rw [HE.out,hm1.out]; rfl,hb⟩
 ·obtain ⟨m,hm⟩ : ∃ m : Nat,Int.tmod n 255 = (m : Int):=⟨(Int.tmod n 255).toNat,by omega⟩
  have hm1 : Hid ((n % 255).toNat = m):=by unfold Hid; rw [t2 (by omega),hm]; omega
  have hm2 : m < 255:=by omega
  have b0 : (m : Int) < 255:=by omega
  have d0 : decide ((m : Int) < 0) = false:=by simp
  clear t1 t2 t3 t4 hs
  go_enter Tryz.func184,Tryz.ntmps184
  go_wp2_with fail
  refine (orNew_any v _ hf).mono ?_
  rintro e w1 ⟨b,rfl,hh,hb⟩
  have c0:=(hh.cell m).trans (FC_pwr hm2)
  go_wp2_with fail
  go_ret
  exact ⟨by rw [HE.out,hm1.out]; rfl,hb⟩
theorem orNew_same (b : Nat) (w : World) :
  Calls Tryz.prog 183 #[.pointer (some ⟨b,0,none⟩)] w fun e w'=>e = .returned (.pointer (some ⟨b,0,none⟩)) /\ w' = w:=by
 go_enter Tryz.func183,Tryz.ntmps183
 go_wp2_with fail
 go_ret
 exact ⟨rfl,rfl⟩
theorem exp_same (b : Nat) (n : Int) (w : World) (hh : Has w b FC 261) :
  Calls Tryz.prog 184 #[.pointer (some ⟨b,0,none⟩),.int .i64 n] w fun e w'=>e = .returned (.int .u8 ((Fld.exp n : Nat) : Int)) /\ w' = w:=by
 obtain ⟨t1,t2,t3,t4⟩:=tmod255 n
 have HE : Hid (Fld.exp n = Fld.pwr (n % 255).toNat):=rfl
 by_cases hs : Int.tmod n 255 < 0
 ·obtain ⟨m,hm⟩ : ∃ m : Nat,Int.tmod n 255 = (m : Int) - 255:=⟨(Int.tmod n 255 + 255).toNat,by omega⟩
  have hm1 : Hid ((n % 255).toNat = m):=by unfold Hid; rw [t1 hs,hm]; omega
  have hm2 : m < 255:=by omega
  have b0 : (m : Int) < 255:=by omega
  have e1 : (m : Int) - 255 + 255 = (m : Int):=by omega
  have d0 : decide ((m : Int) - 255 < 0) = true:=by simp; omega
  clear t1 t2 t3 t4 hs
  go_enter Tryz.func184,Tryz.ntmps184
  go_wp2_with fail
  refine (orNew_same b _).mono ?_
  rintro e w1 ⟨rfl,rfl⟩
  have c0:=(hh.cell m).trans (FC_pwr hm2)
  go_wp2_with fail
  go_ret
  exact ⟨by rw [HE.out,hm1.out]; rfl,rfl⟩
 ·obtain ⟨m,hm⟩ : ∃ m : Nat,Int.tmod n 255 = (m : Int):=⟨(Int.tmod n 255).toNat,by omega⟩
  have hm1 : Hid ((n % 255).toNat = m):=by unfold Hid; rw [t2 (by omega),hm]; omega
  have hm2 : m < 255:=by omega
  have b0 : (m : Int) < 255:=by omega
  have d0 : decide ((m : Int) < 0) = false:=by simp
  clear t1 t2 t3 t4 hs
  go_enter Tryz.func184,Tryz.ntmps184
  go_wp2_with fail
  refine (orNew_same b _).mono ?_
  rintro e w1 ⟨rfl,rfl⟩
  have c0:=(hh.cell m).trans (FC_pwr hm2)
  go_wp2_with fail
  go_ret
  exact ⟨by rw [HE.out,hm1.out]; rfl,rfl⟩
theorem add_any (v : Value) (a b : Nat) (ha : a < 256) (hb : b < 256) (w : World) :
  Calls Tryz.prog 185 #[v,.int .u8 (a : Int),.int .u8 (b : Int)] w fun e w'=>e = .returned (.int .u8 ((a ^^^ b : Nat) : Int)) /\ Below w.heap.size w w':=by
 have x1 : Hid (bits .xor .u8 (a : Int) (b : Int) = ((a ^^^ b : Nat) : Int)):=u8_xor_nat a b ha hb
 go_enter Tryz.func185,Tryz.ntmps185
 go_wp2_with fail
 go_ret
 exact ⟨ret_int x1.out,Below.refl _ _⟩
theorem inv_any (v : Value) (a : Nat) (ha : a < 256) (w : World) (hf : IsF w v) :
  Calls Tryz.prog 157 #[v,.int .u8 (a : Int)] w fun e w'=>e = .returned (.tuple #[.int .u8 ((if a = 0 then 0 else Fld.inv a : Nat) : Int),.bool (decide (a ≠ 0))]) /\ Below w.heap.size w w':=by
 by_cases h0 : a = 0
 ·subst h0
  go_enter Tryz.func157,Tryz.ntmps157
  go_wp2_with fail
  go_ret2
  exact ⟨rfl,Below.refl _ _⟩
 ·have d0 : ((a : Int) == 0) = false:=by rw [beq_eq_false_iff_ne]; omega
  have b0 : (a : Int) < 256:=by omega
  have l0:=Fld.lg_lt ha
  have HR : Hid (Ending.returned (.tuple #[.int .u8 ((if a = 0 then 0 else Fld.inv a : Nat) : Int),.bool (decide (a ≠ 0))]) = .returned (.tuple #[.int .u8 ((Fld.exp (-(Fld.lg a : Int)) : Nat) : Int),.bool true])):=by
   unfold Hid; rw [if_neg h0,decide_eq_true h0]; unfold Fld.inv Fld.exp
   rw [show ((-(Fld.lg a : Int)) % 255).toNat = (255 - Fld.lg a) % 255 by omega]
  rw [HR.out]
  go_enter Tryz.func157,Tryz.ntmps157
  go_wp2_with fail
  refine (orNew_any v _ hf).mono ?_
  rintro e w1 ⟨b,rfl,hh,hb⟩
  have c0:=(hh.cell (255 + a)).trans (FC_lg ha)
  go_wp2_with fail
  refine (exp_any _ _ _ (.inr ⟨b,rfl,hh⟩)).mono ?_
  rintro e w2 ⟨rfl,hb2⟩
  go_wp2_with fail
  go_ret2
  exact ⟨rfl,belowCall hb hb2⟩
theorem mul_any (v : Value) (a b : Nat) (ha : a < 256) (hb : b < 256) (w : World) (hf : IsF w v) :
  Calls Tryz.prog 186 #[v,.int .u8 (a : Int),.int .u8 (b : Int)] w fun e w'=>e = .returned (.int .u8 ((Fld.mul a b : Nat) : Int)) /\ Below w.heap.size w w':=by
 by_cases a0 : a = 0
 ·subst a0
  rw [Fld.zero_mul]
  go_enter Tryz.func186,Tryz.ntmps186
  go_wp2_with fail
  go_ret
  exact ⟨rfl,Below.refl _ _⟩
 have da : ((a : Int) == 0) = false:=by rw [beq_eq_false_iff_ne]; omega
 by_cases b0 : b = 0
 ·subst b0
  rw [Fld.mul_zero]
  go_enter Tryz.func186,Tryz.ntmps186
  go_wp2_with fail
  go_ret
  exact ⟨rfl,Below.refl _ _⟩
 have db : ((b : Int) == 0) = false:=by rw [beq_eq_false_iff_ne]; omega
 have la:=Fld.lg_lt ha
 have lb:=Fld.lg_lt hb
 have HR : Hid (Fld.mul a b = Fld.exp ((Fld.lg a : Int) + (Fld.lg b : Int))):=by
  unfold Hid; rw [Fld.mul_nz a0 b0]; unfold Fld.exp; congr 1
 have i0 : (a : Int) < 256:=by omega
 have i1 : (b : Int) < 256:=by omega
 rw [HR.out]
 go_enter Tryz.func186,Tryz.ntmps186
 go_wp2_with fail
 refine (orNew_any v _ hf).mono ?_
 rintro e w1 ⟨bl,rfl,hh,hb1⟩
 have c0:=(hh.cell (255 + a)).trans (FC_lg ha)
 have c1:=(hh.cell (255 + b)).trans (FC_lg hb)
 go_wp2_with fail
 go_quiet ((go_at_call 184; exact Calls.quiet_of_same (exp_same _ _ _ (by assumption))))
 go_wp2_with fail
 go_ret
 exact ⟨rfl,below_draws hb1 _⟩
end Go.Proofs.YteapbbaollmniaaGreatDoor.C
/- The contracts of the document's own answers. -/
namespace Go.Proofs.YteapbbaollmniaaGreatDoor.C
open Go.RowKit
end Go.Proofs.YteapbbaollmniaaGreatDoor.C
/- The contracts of the document's inverses, logarithms and powers. -/
namespace Go.Proofs.YteapbbaollmniaaGreatDoor.C
open Go.RowKit
theorem beq_nat (n m : Nat) : ((n : Int) == (m : Int)) = decide (n = m):=by
 by_cases h : n = m
 ·subst h; simp
 ·rw [decide_eq_false h,beq_eq_false_iff_ne]; omega
end Go.Proofs.YteapbbaollmniaaGreatDoor.C
