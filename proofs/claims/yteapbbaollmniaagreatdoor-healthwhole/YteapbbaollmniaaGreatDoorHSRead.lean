/- The contract of Make. -/
import Derived.Laws.ResultCell
import Derived.Test.YteapbbaollmniaaGreatDoorHSOps
import Derived.Lib.IndexLaws
import Derived.Lib.AtoiBound
import Derived.Lib.AtoiErrMem
namespace Go.Proofs.YteapbbaollmniaaGreatDoor.H
open Go.RowKit
/-- whether a shard may be, but for how long it is -/
def okS (K N : Int) (d : ByteArray) (i : Int) : Bool:=okC K N && decide (d.size = 32) && (decide (0 <= i) && decide (i < N))
/-- Make's error -/
def mkE (K N : Int) (d : ByteArray) (i : Int) (p : ByteArray) : Int:=if okS K N d i then (if p.size <= 65461 then 0 else 40) else 1
/-- Make's name -/
def mkN (K N : Int) (d : ByteArray) (i : Int) (p : ByteArray) : ByteArray:=if mkE K N d i p = 0 then ofBs (nm (bs d) i) else ⟨#[]⟩
/-- Make's bytes -/
def mkD (K N : Int) (d : ByteArray) (i : Int) (p : ByteArray) : ByteArray:=if mkE K N d i p = 0 then ofBs (dat K.toNat N.toNat i.toNat (bs d) (bs p)) else ⟨#[]⟩
def obv (a b : ByteArray) : Value:=.agg #[.string a,.string b]
/-- an object and an error, as they are told -/
def mkV (K N : Int) (d : ByteArray) (i : Int) (p : ByteArray) : Value:=.tuple #[obv (mkN K N d i p) (mkD K N d i p),.int .i64 (mkE K N d i p)]
theorem two_new (w : World) (a b : Array Value) (s t : TypeId) : Has ((w.alloc (.cells a s)).alloc (.cells b t)) w.heap.size a s /\ Has ((w.alloc (.cells a s)).alloc (.cells b t)) (w.heap.size + 1) b t /\ Below w.heap.size w ((w.alloc (.cells a s)).alloc (.cells b t)) /\ ((w.alloc (.cells a s)).alloc (.cells b t)).heap.size = w.heap.size + 2 :=
 ⟨(Has.new _ _ _ _ rfl).alloc _,Has.new _ _ _ _ (by simp),belowAlloc (belowAlloc (Below.refl _ _) _) _,by simp⟩
/-- the memory of Make: the shard, and the object that is told -/
structure MkW (c o : Array Value) (w W : World) : Prop where
 hs : Has W w.heap.size c 105
 ho : Has W (w.heap.size + 1) o 101
 bl : Below w.heap.size w W
theorem MkW.start (w : World) (c o : Array Value) {W : World} (h : Below ((w.alloc (.cells c 105)).alloc (.cells o 101)).heap.size ((w.alloc (.cells c 105)).alloc (.cells o 101)) W) : MkW c o w W:=by
 obtain ⟨h1,h2,h3,h4⟩:=two_new w c o 105 101
 exact ⟨h1.below h (by omega),h2.below h (by omega),belowCall h3 h⟩
theorem MkW.next {c o : Array Value} {w W W' : World} (h : MkW c o w W) (hb : Below W.heap.size W W') : MkW c o w W' :=
 ⟨h.hs.below hb h.hs.lt,h.ho.below hb h.ho.lt,belowCall h.bl hb⟩
def noO : Array Value:=#[.string ⟨#[]⟩,.string ⟨#[]⟩]
theorem obj_cells {W : World} {b : Nat} {x y : ByteArray} {t : TypeId} (h : Has W b #[.string x,.string y] t) :
  W.cell? ⟨b,0,none⟩ = some (.string x) /\ W.cell? ⟨b,1,none⟩ = some (.string y) /\ W.frozen? ⟨b,0,none⟩ = false /\ W.frozen? ⟨b,1,none⟩ = false :=
 ⟨h.cell 0,h.cell 1,h.frozen 0,h.frozen 1⟩
set_option maxRecDepth 20000 in
theorem obj_put {W : World} {b : Nat} {x y : ByteArray} {t : TypeId} (h : Has W b #[.string x,.string y] t) (x' y' : ByteArray) :
  Has ((W.setCell ⟨b,0,none⟩ (.string x')).setCell ⟨b,1,none⟩ (.string y')) b #[.string x',.string y'] t:=by
 have:=(h.set 0 (.string x')).set 1 (.string y')
 simpa using this
theorem below_put {w W : World} {b : Nat} (h : Below w.heap.size w W) (hb : w.heap.size <= b) (x' y' : Value) : Below w.heap.size w ((W.setCell ⟨b,0,none⟩ x').setCell ⟨b,1,none⟩ y') :=
 belowSet (belowSet h b 0 x' hb) b 1 y' hb
set_option maxRecDepth 20000 in
/-- a result that lies in memory, and an error beside it -/
theorem ret_cell {fn : Func} {a : Act} {W : World} {b : Nat} {cs : List Value} {ty : TypeId} {p u : Tmp} {v : Value} {d : TypeDesc} {Q : Ending -> World -> Prop}
  (hf : fn.results = #[.cell p ty,.tmp u]) (hp : a.tmps.getD p undef = .pointer (some ⟨b,0,none⟩)) (hv : a.tmps.getD u undef = v) (hd : a.defers = []) (hc : W.rangeAt b 0 cs)
  (hu : Tryz.prog.underlying ty = some d) (hr : d.isRow = true) (hi : (Tryz.prog.info? ty).map (·.size) = some cs.length) (hQ : Q (.returned (.tuple #[.agg cs.toArray,v])) W) : bodyPost Tryz.prog fn Q Exit.ret a W:=by
 refine bodyPost_ret (v:=.tuple #[.agg cs.toArray,v]) ?_ hd hQ
 rw [results_cell_tmp hf,hp,hv]
 have hld:=run_loadVar_mid (P:=Tryz.prog) W b 0 ty cs d hc hu hr hi
 show ((Sem.run Tryz.prog (loadVar ty ⟨b,0,none⟩) W).andThen _) = _
 rw [hld]
 rfl
theorem info27 : (Tryz.prog.info? 101).map (·.size) = some 2:=by kernel_rfl
theorem ret_obj {fn : Func} {a : Act} {W : World} {b : Nat} {x y : ByteArray} {p u : Tmp} {v : Value} {Q : Ending -> World -> Prop}
  (hf : fn.results = #[.cell p 101,.tmp u]) (hp : a.tmps.getD p undef = .pointer (some ⟨b,0,none⟩)) (hv : a.tmps.getD u undef = v) (hd : a.defers = []) (hc : Has W b #[.string x,.string y] 101)
  (hQ : Q (.returned (.tuple #[obv x y,v])) W) : bodyPost Tryz.prog fn Q Exit.ret a W :=
 ret_cell (cs:=[.string x,.string y]) hf hp hv hd hc.range Tryz.underlying101 rfl info27 hQ
set_option maxRecDepth 20000 in
theorem make_arg (K N : Int) (d : ByteArray) (i : Int) (p : ByteArray) (h : okS K N d i = false) (w : World) :
  Calls Tryz.prog 42 #[.agg (shc K N d i p)] w fun e w'=>e = .returned (.tuple #[obv ⟨#[]⟩ ⟨#[]⟩,.int .i64 1]) /\ Below w.heap.size w w':=by
 unfold shc
 go_enter Tryz.func42,Tryz.ntmps42
 go_wp2_with fail
 refine (code_any K N _).mono ?_
 rintro e w1 ⟨rfl,b1⟩
 have M1 : MkW (shc K N d i p) noO w w1:=MkW.start w _ _ b1
 clear b1
 obtain ⟨c0,c1,c2,c3,c4⟩:=shc_cells M1.hs
 obtain ⟨r0,r1,f0,f1⟩:=obj_cells M1.ho
 by_cases h1 : okC K N = true
 ·have h2 : Hid ((decide (d.size = 32) && (decide (0 <= i) && decide (i < N))) = false):=by
   unfold okS at h; rw [h1,Bool.true_and] at h; exact h
  rw [h1]
  by_cases hd : d.size = 32
  ·have q1 : ((d.size : Int) != 32) = false:=by rw [hd]; rfl
   go_wp2_with fail
   refine (may_any i N w1).mono ?_
   rintro e w2 ⟨rfl,rfl⟩
   have q2 : (decide (0 <= i) && decide (i < N)) = false:=by have:=h2.out; rw [hd] at this; simpa using this
   rw [q2]
   go_wp2_with fail
   exact ret_obj Tryz.results42 rfl rfl rfl (obj_put M1.ho _ _) ⟨rfl,below_put M1.bl (by omega) _ _⟩
  ·have q1 : ((d.size : Int) != 32) = true:=by rw [bne_iff_ne]; omega
   go_wp2_with fail
   exact ret_obj Tryz.results42 rfl rfl rfl (obj_put M1.ho _ _) ⟨rfl,below_put M1.bl (by omega) _ _⟩
 ·have h1 : okC K N = false:=by simpa using h1
  rw [h1]
  go_wp2_with fail
  exact ret_obj Tryz.results42 rfl rfl rfl (obj_put M1.ho _ _) ⟨rfl,below_put M1.bl (by omega) _ _⟩
set_option maxRecDepth 20000 in
theorem make_big (K N : Int) (d : ByteArray) (i : Int) (p : ByteArray) (h : okS K N d i = true) (hp : 65461 < p.size) (w : World) :
  Calls Tryz.prog 42 #[.agg (shc K N d i p)] w fun e w'=>e = .returned (.tuple #[obv ⟨#[]⟩ ⟨#[]⟩,.int .i64 40]) /\ Below w.heap.size w w':=by
 unfold okS at h
 simp only [Bool.and_eq_true,decide_eq_true_eq] at h
 obtain ⟨⟨h1,hd⟩,h2,h3⟩:=h
 have q0 : (65461 : Int) < (p.size : Int):=by omega
 unfold shc
 go_enter Tryz.func42,Tryz.ntmps42
 go_wp2_with fail
 refine (code_any K N _).mono ?_
 rintro e w1 ⟨rfl,b1⟩
 have M1 : MkW (shc K N d i p) noO w w1:=MkW.start w _ _ b1
 clear b1
 obtain ⟨c0,c1,c2,c3,c4⟩:=shc_cells M1.hs
 obtain ⟨r0,r1,f0,f1⟩:=obj_cells M1.ho
 rw [h1]
 have q1 : ((d.size : Int) != 32) = false:=by rw [hd]; rfl
 go_wp2_with fail
 refine (may_any i N w1).mono ?_
 rintro e w2 ⟨rfl,rfl⟩
 have q2 : (decide (0 <= i) && decide (i < N)) = true:=by simp [h2,h3]
 rw [q2]
 clear h1 h2 h3 q2
 go_wp2_with fail
 exact ret_obj Tryz.results42 rfl rfl rfl (obj_put M1.ho _ _) ⟨rfl,below_put M1.bl (by omega) _ _⟩
/-- what the slots of Make's last statement hold -/
def mv (n : Nat) (K N : Int) (d : ByteArray) (i : Int) (p X Y : ByteArray) : Nat -> Value
 | 29=>.pointer (some ⟨n,2,none⟩)
 | 30=>.string d
 | 31=>.pointer (some ⟨n,3,none⟩)
 | 32=>.int .i64 i
 | 33=>.string X
 | 34=>.agg (shc K N d i p)
 | 35=>.string Y
 | _=>obv X Y
set_option maxRecDepth 20000 in
theorem make_ok (K N : Int) (d : ByteArray) (i : Int) (p : ByteArray) (h : okS K N d i = true) (hp : p.size <= 65461) (w : World) (hl : Lay w) :
  Calls Tryz.prog 42 #[.agg (shc K N d i p)] w fun e w'=>e = .returned (.tuple #[obv (ofBs (nm (bs d) i)) (ofBs (dat K.toNat N.toNat i.toNat (bs d) (bs p))),.int .i64 0]) /\ Below w.heap.size w w':=by
 unfold okS at h
 simp only [Bool.and_eq_true,decide_eq_true_eq] at h
 obtain ⟨⟨h1,hd⟩,h2,h3⟩:=h
 have h1':=h1
 simp only [okC,Bool.and_eq_true,decide_eq_true_eq] at h1'
 obtain ⟨⟨h4,h5⟩,h6⟩:=h1'
 have q0 : ¬ (65461 : Int) < (p.size : Int):=by omega
 have HN : Hid (∀ w,Lay w -> Calls Tryz.prog 72 #[.string d,.int .i64 i] w fun e w'=>e = .returned (.string (ofBs (nm (bs d) i))) /\ Below w.heap.size w w'):=fun w hl=>name_any d i (by omega) (by omega) (by omega) w hl
 have HW : Hid (∀ w,Lay w -> Calls Tryz.prog 86 #[.agg (shc K N d i p)] w fun e w'=>e = .returned (.string (ofBs (dat K.toNat N.toNat i.toNat (bs d) (bs p)))) /\ Below w.heap.size w w'):=by
  intro w hl
  have:=written_any K.toNat N.toNat i.toNat d p (by omega) (by omega) (by omega) (by omega) (by omega) w hl
  rw [Int.toNat_of_nonneg (by omega),Int.toNat_of_nonneg (by omega),Int.toNat_of_nonneg h2] at this
  exact this
 generalize ofBs (nm (bs d) i) = X at *
 generalize ofBs (dat K.toNat N.toNat i.toNat (bs d) (bs p)) = Y at *
 unfold shc
 go_enter Tryz.func42,Tryz.ntmps42
 go_wp2_with fail
 refine (code_any K N _).mono ?_
 rintro e w1 ⟨rfl,b1⟩
 have M1 : MkW (shc K N d i p) noO w w1:=MkW.start w _ _ b1
 clear b1
 obtain ⟨c0,c1,c2,c3,c4⟩:=shc_cells M1.hs
 rw [h1]
 have q1 : ((d.size : Int) != 32) = false:=by rw [hd]; rfl
 go_wp2_with fail
 refine (may_any i N w1).mono ?_
 rintro e w2 ⟨rfl,rfl⟩
 have q2 : (decide (0 <= i) && decide (i < N)) = true:=by simp [h2,h3]
 rw [q2]
 clear h1 h2 h3 q2 h4 h5 h6
 have l2:=hl.below M1.bl
 go_wp2_with fail
 refine Tl.wp_tail_lit (by kernel_rfl) 8 [29,30,31,32,33,34,35,36] 37 rfl (by kernel_rfl) (MkW (shc K N d i p) noO w) (fun s v _=>v = mv w.heap.size K N d i p X Y s) (fun _ _ _ _ h _=>h) ⟨M1.hs.drew,M1.ho.drew,M1.bl.drew⟩
  ⟨fun a' W' hC hF=>?_,fun a' W' hC hF=>?_,fun a' W' hC hF=>?_,fun a' W' hC hF=>?_,fun a' W' hC hF=>?_,fun a' W' hC hF=>?_,fun a' W' hC hF=>?_,fun a' W' hC hF=>?_,trivial⟩ ?_
 ·exact Tl.st_v 29 _ rfl rfl hC rfl (rn_f25_1 rfl ((hF 1 (by decide +kernel)).2 (by decide)))
 ·exact Tl.st_v 30 _ rfl rfl hC rfl (rn_load9 rfl ((hF 29 (by decide +kernel)).1 (by decide)) (shc_cells hC.hs).2.2.1)
 ·exact Tl.st_v 31 _ rfl rfl hC rfl (rn_f25_2 rfl ((hF 1 (by decide +kernel)).2 (by decide)))
 ·exact Tl.st_v 32 _ rfl rfl hC rfl (rn_load3 rfl ((hF 31 (by decide +kernel)).1 (by decide)) (shc_cells hC.hs).2.2.2.1)
 ·exact Tl.st_call 33 72 _ rfl (Tl.wanted_none rfl) (rn_call2 rfl rfl ((hF 30 (by decide +kernel)).1 (by decide)) ((hF 32 (by decide +kernel)).1 (by decide)) (enter13 _)) ((HN.out W' (hl.below hC.bl)).mono fun e w'' h=>⟨_,h.1,hC.next h.2,h.2,rfl⟩)
 ·exact Tl.st_v 34 _ rfl rfl hC rfl (rn_load25 rfl ((hF 1 (by decide +kernel)).2 (by decide)) hC.hs)
 ·exact Tl.st_call 35 86 _ rfl (Tl.wanted_none rfl) (rn_call1 rfl rfl ((hF 34 (by decide +kernel)).1 (by decide)) (enter19 _)) ((HW.out W' (hl.below hC.bl)).mono fun e w'' h=>⟨_,h.1,hC.next h.2,h.2,rfl⟩)
 ·exact Tl.st_v 36 _ rfl rfl hC rfl (rn_build27 rfl ((hF 33 (by decide +kernel)).1 (by decide)) ((hF 35 (by decide +kernel)).1 (by decide)))
 ·intro v W' hC hv
  obtain ⟨r0,r1,f0,f1⟩:=obj_cells hC.ho
  have v36 : v 36 = obv X Y:=hv 36 (by decide)
  simp only [Tl.fill,v36,obv]
  go_wp2_with fail
  exact ret_obj Tryz.results42 rfl rfl rfl (obj_put hC.ho _ _) ⟨rfl,below_put hC.bl (by omega) _ _⟩
/-- MAKE. -/
theorem make_any (K N : Int) (d : ByteArray) (i : Int) (p : ByteArray) (w : World) (hl : Lay w) :
  Calls Tryz.prog 42 #[.agg (shc K N d i p)] w fun e w'=>e = .returned (mkV K N d i p) /\ Below w.heap.size w w':=by
 unfold mkV mkN mkD mkE
 by_cases h : okS K N d i = true
 ·by_cases hp : p.size <= 65461
  ·simp only [h,hp,if_true]
   exact make_ok K N d i p h hp w hl
  ·simp only [h,hp,if_true,if_false]
   exact make_big K N d i p h (by omega) w
 ·have h' : okS K N d i = false:=by simpa using h
  simp only [h',Bool.false_eq_true,if_false]
  exact make_arg K N d i p h' w
end Go.Proofs.YteapbbaollmniaaGreatDoor.H
/- The contract of Parse. -/
/- strings.Cut at a dot. -/
namespace Go.Proofs.YteapbbaollmniaaGreatDoor.H
open Go.RowKit
theorem str_ne {a b : ByteArray} (h : bs a ≠ bs b) : (a.toList == b.toList) = false:=by
 rw [beq_eq_false_iff_ne]
 intro e
 rw [ByteArray.toList_eq,ByteArray.toList_eq] at e
 exact h (by unfold bs; rw [e])
end Go.Proofs.YteapbbaollmniaaGreatDoor.H
namespace Go.Proofs.YteapbbaollmniaaGreatDoor.H
open Go.RowKit
theorem bs_extract (s : ByteArray) (a b : Nat) : bs (s.extract a b) = ((bs s).take b).drop a:=by
 have e : (s.extract a b).data.toList = (s.data.toList.take b).drop a:=by
  rw [ByteArray.data_extract,Array.toList_extract,List.extract_eq_take_drop,List.drop_take]
 unfold bs; rw [e,List.map_drop,List.map_take]
end Go.Proofs.YteapbbaollmniaaGreatDoor.H
/- The contract of takenOff: a shard as data tell it. -/
namespace Go.Proofs.YteapbbaollmniaaGreatDoor.H
open Go.RowKit
theorem clone_any (s : ByteArray) (hs : s.size <= 1000000) (w : World) :
  Calls Tryz.prog 147 #[.string s] w fun e w'=>e = .returned (.string s) /\ Below w.heap.size w w':=by
 go_enter Tryz.func147,Tryz.ntmps147
 go_wp2_with fail
 refine (Tryz.stringslite_Clone s w (by omega)).mono ?_
 rintro e w1 ⟨rfl,b1⟩
 go_wp2_with fail
 go_ret
 exact ⟨rfl,b1⟩
theorem take_any (s : ByteArray) (b k : Nat) (w : World) (hb : Has w b #[.string s] 9) (hk : k <= s.size) (hs : s.size <= 1000000) :
  Calls Tryz.prog 191 #[.int .i64 (k : Int),.pointer (some ⟨b,0,none⟩)] w fun e w'=>e = .returned (.string (s.extract 0 k)) /\ Has w' b #[.string (s.extract k s.size)] 9 /\ Only b w w':=by
 have c0 : w.cell? ⟨b,0,none⟩ = some (.string s):=hb.cell 0
 have q1 : (k : Int) <= (s.size : Int):=by omega
 go_enter Tryz.func191,Tryz.ntmps191
 go_wp2_with fail
 refine (clone_any (s.extract 0 k) (by rw [ByteArray.size_extract]; omega) w).mono ?_
 rintro e w1 ⟨rfl,b1⟩
 have h1:=hb.below b1 hb.lt
 have c1 : w1.cell? ⟨b,0,none⟩ = some (.string s):=h1.cell 0
 have f1:=h1.frozen 0
 clear c0
 go_wp2_with fail
 go_ret
 exact ⟨rfl,h1.set 0 _,(Only.of_below b1).setCell 0 _⟩
theorem ext1 (s : ByteArray) (c k : Nat) : (s.extract c s.size).extract 0 k = s.extract c (c + k):=by
 apply bs_inj
 rw [bs_extract,bs_extract,bs_extract,List.drop_zero,<- bs_length,List.take_length,List.take_drop]
theorem ext2 (s : ByteArray) (c k : Nat) : (s.extract c s.size).extract k (s.extract c s.size).size = s.extract (c + k) s.size:=by
 apply bs_inj
 have e : ∀ c,bs (s.extract c s.size) = (bs s).drop c:=fun c=>bs_drop s c
 rw [bs_drop,e,e,List.drop_drop]
theorem off_any (s : ByteArray) (b c k : Nat) (w : World) (hb : Has w b #[.string (s.extract c s.size)] 9) (hk : c + k <= s.size) (hs : s.size <= 1000000) :
  Calls Tryz.prog 191 #[.int .i64 (k : Int),.pointer (some ⟨b,0,none⟩)] w fun e w'=>e = .returned (.string (s.extract c (c + k))) /\ Has w' b #[.string (s.extract (c + k) s.size)] 9 /\ Only b w w':=by
 have hz : (s.extract c s.size).size = s.size - c:=by rw [ByteArray.size_extract]; omega
 have:=take_any (s.extract c s.size) b k w hb (by omega) (by omega)
 rw [ext1 s c k,ext2 s c k] at this
 exact this
/-- the fields that data tell -/
def fB (s : ByteArray) (j : Nat) : Int:=(((bs s).getD j 0 : Nat) : Int)
def fD (s : ByteArray) : ByteArray:=s.extract 11 43
def fP (s : ByteArray) : ByteArray:=s.extract 43 (s.size - 32)
theorem fB_byte (s : ByteArray) (j : Nat) : 0 <= fB s j /\ fB s j < 256:=by
 unfold fB
 have:=getD_lt (bs s) 256 (by decide) (bs_lt s) j
 omega
def noS : Array Value:=shc 0 0 ⟨#[]⟩ 0 ⟨#[]⟩
structure TkW (s : ByteArray) (c : Nat) (w W : World) : Prop where
 hd : Has W w.heap.size #[.string (s.extract c s.size)] 9
 hr : Has W (w.heap.size + 1) noS 105
 bl : Below w.heap.size w W
theorem TkW.next {s : ByteArray} {c c' : Nat} {w W W' : World} (h : TkW s c w W) (h' : Has W' w.heap.size #[.string (s.extract c' s.size)] 9) (ho : Only w.heap.size W W') : TkW s c' w W' :=
 ⟨h',h.hr.only ho (by omega),h.bl.trans (ho.below (Nat.le_refl _) h.bl.size)⟩
theorem noS_cells {W : World} {b : Nat} {t : TypeId} (h : Has W b noS t) :
  W.cell? ⟨b,0,none⟩ = some (.int .i64 0) /\ W.cell? ⟨b,1,none⟩ = some (.int .i64 0) /\ W.cell? ⟨b,2,none⟩ = some (.string ⟨#[]⟩) /\ W.cell? ⟨b,3,none⟩ = some (.int .i64 0) /\ W.cell? ⟨b,4,none⟩ = some (.string ⟨#[]⟩) /\ W.frozen? ⟨b,0,none⟩ = false /\ W.frozen? ⟨b,1,none⟩ = false /\ W.frozen? ⟨b,2,none⟩ = false /\ W.frozen? ⟨b,3,none⟩ = false /\ W.frozen? ⟨b,4,none⟩ = false :=
 ⟨h.cell 0,h.cell 1,h.cell 2,h.cell 3,h.cell 4,h.frozen 0,h.frozen 1,h.frozen 2,h.frozen 3,h.frozen 4⟩
theorem shc_put {W : World} {b : Nat} {K N i : Int} {d p : ByteArray} {t : TypeId} (h : Has W b (shc K N d i p) t) (K' N' i' : Int) (d' p' : ByteArray) :
  Has (((((W.setCell ⟨b,0,none⟩ (.int .i64 K')).setCell ⟨b,1,none⟩ (.int .i64 N')).setCell ⟨b,2,none⟩ (.string d')).setCell ⟨b,3,none⟩ (.int .i64 i')).setCell ⟨b,4,none⟩ (.string p')) b (shc K' N' d' i' p') t:=by
 have:=((((h.set 0 (.int .i64 K')).set 1 (.int .i64 N')).set 2 (.string d')).set 3 (.int .i64 i')).set 4 (.string p')
 simpa [shc] using this
theorem below_put5 {w W : World} {b : Nat} (h : Below w.heap.size w W) (hb : w.heap.size <= b) (v0 v1 v2 v3 v4 : Value) : Below w.heap.size w (((((W.setCell ⟨b,0,none⟩ v0).setCell ⟨b,1,none⟩ v1).setCell ⟨b,2,none⟩ v2).setCell ⟨b,3,none⟩ v3).setCell ⟨b,4,none⟩ v4) :=
 belowSet (belowSet (belowSet (belowSet (belowSet h b 0 v0 hb) b 1 v1 hb) b 2 v2 hb) b 3 v3 hb) b 4 v4 hb
theorem info25 : (Tryz.prog.info? 105).map (·.size) = some 5:=by kernel_rfl
theorem info33 : (Tryz.prog.info? 111).map (·.size) = some 5:=by kernel_rfl
set_option maxRecDepth 20000 in
/-- a shard that lies in memory is told -/
theorem ret_one25 {fn : Func} {a : Act} {W : World} {b : Nat} {K N i : Int} {d q : ByteArray} {p : Tmp} {Q : Ending -> World -> Prop}
  (hf : fn.results = #[.cell p 105]) (hp : a.tmps.getD p undef = .pointer (some ⟨b,0,none⟩)) (hd : a.defers = []) (hc : Has W b (shc K N d i q) 105)
  (hQ : Q (.returned (.agg (shc K N d i q))) W) : bodyPost Tryz.prog fn Q Exit.ret a W:=by
 refine bodyPost_ret (v:=.agg (shc K N d i q)) ?_ hd hQ
 rw [results_one_cell hf]
 exact ret_row (cs:=(shc K N d i q).toList) hp hc.range Tryz.underlying105 rfl info25
theorem ret_shard {fn : Func} {a : Act} {W : World} {b : Nat} {K N i : Int} {d q : ByteArray} {p u : Tmp} {v : Value} {Q : Ending -> World -> Prop}
  (hf : fn.results = #[.cell p 105,.tmp u]) (hp : a.tmps.getD p undef = .pointer (some ⟨b,0,none⟩)) (hv : a.tmps.getD u undef = v) (hd : a.defers = []) (hc : Has W b (shc K N d i q) 105)
  (hQ : Q (.returned (.tuple #[.agg (shc K N d i q),v])) W) : bodyPost Tryz.prog fn Q Exit.ret a W :=
 ret_cell (cs:=(shc K N d i q).toList) hf hp hv hd hc.range Tryz.underlying105 rfl info25 hQ
theorem ret_shard33 {fn : Func} {a : Act} {W : World} {b : Nat} {K N i : Int} {d q : ByteArray} {p u : Tmp} {v : Value} {Q : Ending -> World -> Prop}
  (hf : fn.results = #[.cell p 111,.tmp u]) (hp : a.tmps.getD p undef = .pointer (some ⟨b,0,none⟩)) (hv : a.tmps.getD u undef = v) (hd : a.defers = []) (hc : Has W b (shc K N d i q) 111)
  (hQ : Q (.returned (.tuple #[.agg (shc K N d i q),v])) W) : bodyPost Tryz.prog fn Q Exit.ret a W :=
 ret_cell (cs:=(shc K N d i q).toList) hf hp hv hd hc.range Tryz.underlying111 rfl info33 hQ
/-- what the slots of takenOff's last statement hold -/
def tv (A s : ByteArray) : Nat -> Value
 | 21=>.string A
 | 22=>.int .u8 ((bs s).getD 4 0 : Nat)
 | 23=>.int .i64 (fB s 4)
 | 24=>.string A
 | 25=>.int .u8 ((bs s).getD 5 0 : Nat)
 | 26=>.int .i64 (fB s 5)
 | 27=>.agg #[.int .i64 (fB s 4),.int .i64 (fB s 5)]
 | 28=>.string (fD s)
 | 29=>.string A
 | 30=>.int .u8 ((bs s).getD 6 0 : Nat)
 | 31=>.int .i64 (fB s 6)
 | 32=>.string (fP s)
 | _=>.agg (shc (fB s 4) (fB s 5) (fD s) (fB s 6) (fP s))
set_option maxRecDepth 20000 in
theorem taken_any (s : ByteArray) (h : 75 <= s.size) (hs : s.size <= 1000000) (w : World) :
  Calls Tryz.prog 166 #[.string s] w fun e w'=>e = .returned (.agg (shc (fB s 4) (fB s 5) (fD s) (fB s 6) (fP s))) /\ Below w.heap.size w w':=by
 go_enter Tryz.func166,Tryz.ntmps166
 go_wp2_with fail
 have T0 : TkW s 0 w ((w.alloc (.cells #[.string s] 9)).alloc (.cells noS 105)):=by
  obtain ⟨h1,h2,h3,h4⟩:=two_new w #[.string s] noS 9 105
  refine ⟨?_,h2,h3⟩
  have e : s.extract 0 s.size = s:=by apply bs_inj; rw [bs_extract,<- bs_length,List.take_length]; rfl
  rw [e]; exact h1
 refine (off_any s w.heap.size 0 4 _ T0.hd (by omega) hs).mono ?_
 rintro e w1 ⟨rfl,h1,o1⟩
 have T1:=T0.next h1 o1
 clear T0 h1 o1
 go_wp2_with fail
 refine (off_any s w.heap.size 4 3 _ T1.hd (by omega) hs).mono ?_
 rintro e w2 ⟨rfl,h2,o2⟩
 have T2:=T1.next h2 o2
 clear T1 h2 o2
 go_wp2_with fail
 refine (off_any s w.heap.size 7 4 _ T2.hd (by omega) hs).mono ?_
 rintro e w3 ⟨rfl,h3,o3⟩
 have T3:=T2.next h3 o3
 clear T2 h3 o3
 go_wp2_with fail
 refine (off_any s w.heap.size 11 32 _ T3.hd (by omega) hs).mono ?_
 rintro e w4 ⟨rfl,h4,o4⟩
 have T4:=T3.next h4 o4
 clear T3 h4 o4
 have c4 : w4.cell? ⟨w.heap.size,0,none⟩ = some (.string (s.extract (11 + 32) s.size)):=T4.hd.cell 0
 have eP : s.extract 43 (43 + (s.size - 75)) = fP s:=by unfold fP; congr 1; omega
 have HL : Calls Tryz.prog 191 #[.int .i64 (((s.size - 43 : Nat) : Int) - 32),.pointer (some ⟨w.heap.size,0,none⟩)] w4 fun e w'=>e = .returned (.string (fP s)) /\ Has w' w.heap.size #[.string (s.extract (43 + (s.size - 75)) s.size)] 9 /\ Only w.heap.size w4 w':=by
  have:=off_any s w.heap.size 43 (s.size - 75) w4 T4.hd (by omega) hs
  rw [eP,show ((s.size - 75 : Nat) : Int) = ((s.size - 43 : Nat) : Int) - 32 by omega] at this
  exact this
 clear eP
 go_wp2_with fail
 refine HL.mono ?_
 rintro e w5 ⟨rfl,h5,o5⟩
 have T5:=T4.next h5 o5
 clear T4 h5 o5 HL c4
 have hA : (s.extract 4 7).size = 3:=by rw [ByteArray.size_extract]; omega
 have gA : ∀ k,k < 3 -> (bs (s.extract 4 7)).getD k 0 = (bs s).getD (4 + k) 0:=by
  intro k hk
  rw [bs_extract,List.getD_eq_getElem?_getD,List.getD_eq_getElem?_getD,List.getElem?_drop,List.getElem?_take_of_lt (by omega)]
 have g0:=gA 0 (by omega)
 have g1:=gA 1 (by omega)
 have g2:=gA 2 (by omega)
 have hD : s.extract 11 43 = fD s:=rfl
 clear gA
 go_wp2_with fail
 generalize s.extract 4 7 = A at *
 refine Tl.wp_tail_lit (by kernel_rfl) 13 [21,22,23,24,25,26,27,28,29,30,31,32,33] 34 rfl (by kernel_rfl) (TkW s (43 + (s.size - 75)) w) (fun d v _=>v = tv A s d) (fun _ _ _ _ h _=>h) ⟨T5.hd.drew,T5.hr.drew,T5.bl.drew⟩
  ⟨fun a' W' hC hF=>?_,fun a' W' hC hF=>?_,fun a' W' hC hF=>?_,fun a' W' hC hF=>?_,fun a' W' hC hF=>?_,fun a' W' hC hF=>?_,fun a' W' hC hF=>?_,fun a' W' hC hF=>?_,fun a' W' hC hF=>?_,fun a' W' hC hF=>?_,fun a' W' hC hF=>?_,fun a' W' hC hF=>?_,fun a' W' hC hF=>?_,trivial⟩ ?_
 ·exact Tl.st_v 21 _ rfl rfl hC rfl (rn_move rfl ((hF 4 (by decide +kernel)).2 (by decide)))
 ·exact Tl.st_v 22 _ rfl rfl hC rfl (rn_index9 (k:=0) rfl ((hF 21 (by decide +kernel)).1 (by decide)) rfl (by omega) g0)
 ·exact Tl.st_v 23 _ rfl rfl hC rfl (rn_c53 rfl ((hF 22 (by decide +kernel)).1 (by decide)) (fB_byte s 4).1 (fB_byte s 4).2)
 ·exact Tl.st_v 24 _ rfl rfl hC rfl (rn_move rfl ((hF 4 (by decide +kernel)).2 (by decide)))
 ·exact Tl.st_v 25 _ rfl rfl hC rfl (rn_index9 (k:=1) rfl ((hF 24 (by decide +kernel)).1 (by decide)) rfl (by omega) g1)
 ·exact Tl.st_v 26 _ rfl rfl hC rfl (rn_c53 rfl ((hF 25 (by decide +kernel)).1 (by decide)) (fB_byte s 5).1 (fB_byte s 5).2)
 ·exact Tl.st_v 27 _ rfl rfl hC rfl (rn_build23 rfl ((hF 23 (by decide +kernel)).1 (by decide)) ((hF 26 (by decide +kernel)).1 (by decide)))
 ·exact Tl.st_v 28 _ rfl rfl hC rfl (rn_move rfl ((hF 5 (by decide +kernel)).2 (by decide)))
 ·exact Tl.st_v 29 _ rfl rfl hC rfl (rn_move rfl ((hF 4 (by decide +kernel)).2 (by decide)))
 ·exact Tl.st_v 30 _ rfl rfl hC rfl (rn_index9 (k:=2) rfl ((hF 29 (by decide +kernel)).1 (by decide)) rfl (by omega) g2)
 ·exact Tl.st_v 31 _ rfl rfl hC rfl (rn_c53 rfl ((hF 30 (by decide +kernel)).1 (by decide)) (fB_byte s 6).1 (fB_byte s 6).2)
 ·exact Tl.st_v 32 _ rfl rfl hC rfl (rn_move rfl ((hF 6 (by decide +kernel)).2 (by decide)))
 ·exact Tl.st_v 33 _ rfl rfl hC rfl (rn_build25 rfl ((hF 27 (by decide +kernel)).1 (by decide)) ((hF 28 (by decide +kernel)).1 (by decide)) ((hF 31 (by decide +kernel)).1 (by decide)) ((hF 32 (by decide +kernel)).1 (by decide)))
 ·intro v W' hC hv
  obtain ⟨c0,c1,c2,c3,c4,f0,f1,f2,f3,f4⟩:=noS_cells hC.hr
  have v33 : v 33 = .agg (shc (fB s 4) (fB s 5) (fD s) (fB s 6) (fP s)):=hv 33 (by decide)
  simp only [Tl.fill,v33,shc]
  go_wp2_with fail
  exact ret_one25 Tryz.results166 rfl rfl (shc_put hC.hr _ _ _ _ _) ⟨rfl,below_put5 hC.bl (by omega) _ _ _ _ _⟩
end Go.Proofs.YteapbbaollmniaaGreatDoor.H
/- The contract of Read. -/
namespace Go.Proofs.YteapbbaollmniaaGreatDoor.H
open Go.RowKit
/-- whether data of that name are a shard's -/
def rdOk (a s : ByteArray) : Bool:=decide (75 <= s.size) && (decide (mkE (fB s 4) (fB s 5) (fD s) (fB s 6) (fP s) = 0) && (decide (mkN (fB s 4) (fB s 5) (fD s) (fB s 6) (fP s) = a) && decide (mkD (fB s 4) (fB s 5) (fD s) (fB s 6) (fP s) = s)))
/-- what Read tells -/
def rdV (a s : ByteArray) : Value:=if rdOk a s then .tuple #[.agg (shc (fB s 4) (fB s 5) (fD s) (fB s 6) (fP s)),.int .i64 0] else .tuple #[.agg noS,.int .i64 4]
set_option maxRecDepth 20000 in
theorem read_long (a s : ByteArray) (h : s.size < 75 \/ 65536 < s.size) (w : World) :
  Calls Tryz.prog 123 #[obv a s] w fun e w'=>e = .returned (.tuple #[.agg noS,.int .i64 4]) /\ Below w.heap.size w w':=by
 unfold obv
 go_enter Tryz.func123,Tryz.ntmps123
 obtain ⟨h1,h2,h3,h4⟩:=two_new w #[.string a,.string s] noS 101 105
 by_cases q : s.size < 75
 ·have q0 : (s.size : Int) < 75:=by omega
  go_wp2_with fail
  exact ret_shard Tryz.results123 rfl rfl rfl h2 ⟨rfl,h3⟩
 ·have q0 : ¬ (s.size : Int) < 75:=by omega
  have q1 : (65536 : Int) < (s.size : Int):=by omega
  go_wp2_with fail
  exact ret_shard Tryz.results123 rfl rfl rfl h2 ⟨rfl,h3⟩
/-- the memory of Read: the object, and the shard that is told -/
structure RdW (a s : ByteArray) (w W : World) : Prop where
 ho : Has W w.heap.size #[.string a,.string s] 101
 hr : Has W (w.heap.size + 1) noS 105
 bl : Below w.heap.size w W
theorem RdW.start (w : World) (a s : ByteArray) {W : World} (h : Below ((w.alloc (.cells #[.string a,.string s] 101)).alloc (.cells noS 105)).heap.size ((w.alloc (.cells #[.string a,.string s] 101)).alloc (.cells noS 105)) W) : RdW a s w W:=by
 obtain ⟨h1,h2,h3,h4⟩:=two_new w #[.string a,.string s] noS 101 105
 exact ⟨h1.below h (by omega),h2.below h (by omega),belowCall h3 h⟩
theorem RdW.next {a s : ByteArray} {w W W' : World} (h : RdW a s w W) (hb : Below W.heap.size W W') : RdW a s w W' :=
 ⟨h.ho.below hb h.ho.lt,h.hr.below hb h.hr.lt,belowCall h.bl hb⟩
set_option maxRecDepth 20000 in
theorem read_mid (a s : ByteArray) (h1 : 75 <= s.size) (h2 : s.size <= 65536) (w : World) (hl : Lay w) :
  Calls Tryz.prog 123 #[obv a s] w fun e w'=>e = .returned (rdV a s) /\ Below w.heap.size w w':=by
 have q0 : ¬ (s.size : Int) < 75:=by omega
 have q1 : ¬ (65536 : Int) < (s.size : Int):=by omega
 have HM : Hid (∀ w,Lay w -> Calls Tryz.prog 42 #[.agg (shc (fB s 4) (fB s 5) (fD s) (fB s 6) (fP s))] w fun e w'=>e = .returned (.tuple #[.agg #[.string (mkN (fB s 4) (fB s 5) (fD s) (fB s 6) (fP s)),.string (mkD (fB s 4) (fB s 5) (fD s) (fB s 6) (fP s))],.int .i64 (mkE (fB s 4) (fB s 5) (fD s) (fB s 6) (fP s))]) /\ Below w.heap.size w w'):=fun w hl=>make_any _ _ _ _ _ w hl
 have HT : Hid (∀ w,Calls Tryz.prog 166 #[.string s] w fun e w'=>e = .returned (.agg (shc (fB s 4) (fB s 5) (fD s) (fB s 6) (fP s))) /\ Below w.heap.size w w'):=fun w=>taken_any s h1 (by omega) w
 have HR : Hid (rdV a s = if (mkE (fB s 4) (fB s 5) (fD s) (fB s 6) (fP s) = 0 /\ mkN (fB s 4) (fB s 5) (fD s) (fB s 6) (fP s) = a /\ mkD (fB s 4) (fB s 5) (fD s) (fB s 6) (fP s) = s) then .tuple #[.agg (shc (fB s 4) (fB s 5) (fD s) (fB s 6) (fP s)),.int .i64 0] else .tuple #[.agg noS,.int .i64 4]):=by
  unfold Hid rdV rdOk
  simp only [h1,decide_true,Bool.true_and,Bool.and_eq_true,decide_eq_true_eq]
 rw [HR.out]
 clear HR
 generalize mkN (fB s 4) (fB s 5) (fD s) (fB s 6) (fP s) = X at *
 generalize mkD (fB s 4) (fB s 5) (fD s) (fB s 6) (fP s) = Y at *
 generalize mkE (fB s 4) (fB s 5) (fD s) (fB s 6) (fP s) = E at *
 generalize fB s 4 = K at *
 generalize fB s 5 = N at *
 generalize fB s 6 = i at *
 generalize fD s = d at *
 generalize fP s = p at *
 unfold obv
 go_enter Tryz.func123,Tryz.ntmps123
 go_wp2_with fail
 refine (HT.out _).mono ?_
 rintro e w1 ⟨rfl,b1⟩
 have R1 : RdW a s w w1:=RdW.start w a s b1
 clear b1 HT
 unfold shc
 go_wp2_with fail
 have b1 : Below w1.heap.size w1 (w1.alloc (.cells (shc K N d i p) 105)):=(Below.refl _ _).alloc (Nat.le_refl _) _
 have R2:=R1.next b1
 have S2 : Has (w1.alloc (.cells (shc K N d i p) 105)) w1.heap.size (shc K N d i p) 105:=Has.new _ _ _ _ rfl
 refine (HM.out _ (hl.below R2.bl)).mono ?_
 rintro e w2 ⟨rfl,b2⟩
 have R3:=R2.next b2
 have S3:=S2.below b2 S2.lt
 clear b2 b1 R2 S2 R1 HM
 have o0:=fun o=>(obj_cells (R3.ho.alloc o)).1
 have o1:=fun o=>(obj_cells (R3.ho.alloc o)).2.1
 have c0:=fun o=>(noS_cells (R3.hr.alloc o)).1
 have c1:=fun o=>(noS_cells (R3.hr.alloc o)).2.1
 have c2:=fun o=>(noS_cells (R3.hr.alloc o)).2.2.1
 have c3:=fun o=>(noS_cells (R3.hr.alloc o)).2.2.2.1
 have c4:=fun o=>(noS_cells (R3.hr.alloc o)).2.2.2.2.1
 have f0:=fun o=>(R3.hr.alloc o).frozen 0
 have f1:=fun o=>(R3.hr.alloc o).frozen 1
 have f2:=fun o=>(R3.hr.alloc o).frozen 2
 have f3:=fun o=>(R3.hr.alloc o).frozen 3
 have f4:=fun o=>(R3.hr.alloc o).frozen 4
 have s0:=fun o=>(shc_cells (S3.alloc o)).1
 have s1:=fun o=>(shc_cells (S3.alloc o)).2.1
 have s2:=fun o=>(shc_cells (S3.alloc o)).2.2.1
 have s3:=fun o=>(shc_cells (S3.alloc o)).2.2.2.1
 have s4:=fun o=>(shc_cells (S3.alloc o)).2.2.2.2
 have R4:=fun o=>R3.next (W':=w2.alloc o) ((Below.refl _ _).alloc (Nat.le_refl _) o)
 by_cases hE : E = 0
 ·subst hE
  by_cases hX : X = a
  ·subst hX
   by_cases hY : Y = s
   ·subst hY
    go_wp2_with fail
    exact ret_shard Tryz.results123 rfl rfl rfl (shc_put (R4 _).hr _ _ _ _ _) ⟨by first | rfl | (rw [if_neg (fun h=>hE h.1)]; rfl),below_put5 (R4 _).bl (by omega) _ _ _ _ _⟩
   ·have qY : (Y.toList == s.toList) = false:=str_ne fun e=>hY (bs_inj e)
    go_wp2_with fail
    exact ret_shard Tryz.results123 rfl rfl rfl (shc_put (R4 _).hr _ _ _ _ _) ⟨by first | rfl | (rw [if_neg (fun h=>hE h.1)]; rfl),below_put5 (R4 _).bl (by omega) _ _ _ _ _⟩
  ·have qX : (X.toList == a.toList) = false:=str_ne fun e=>hX (bs_inj e)
   go_wp2_with fail
   exact ret_shard Tryz.results123 rfl rfl rfl (shc_put (R4 _).hr _ _ _ _ _) ⟨by first | rfl | (rw [if_neg (fun h=>hE h.1)]; rfl),below_put5 (R4 _).bl (by omega) _ _ _ _ _⟩
 ·have qE : (E != 0) = true:=by rw [bne_iff_ne]; exact hE
  go_wp2_with fail
  exact ret_shard Tryz.results123 rfl rfl rfl (shc_put (R4 _).hr _ _ _ _ _) ⟨by first | rfl | (rw [if_neg (fun h=>hE h.1)]; rfl),below_put5 (R4 _).bl (by omega) _ _ _ _ _⟩
/-- READ. -/
theorem read_any (a s : ByteArray) (w : World) (hl : Lay w) :
  Calls Tryz.prog 123 #[obv a s] w fun e w'=>e = .returned (rdV a s) /\ Below w.heap.size w w':=by
 by_cases h : 75 <= s.size /\ s.size <= 65536
 ·exact read_mid a s h.1 h.2 w hl
 ·have e : rdV a s = .tuple #[.agg noS,.int .i64 4]:=by
   unfold rdV
   rw [if_neg]
   intro hk
   unfold rdOk at hk
   simp only [Bool.and_eq_true,decide_eq_true_eq] at hk
   apply h
   refine ⟨hk.1,?_⟩
   have h0:=hk.2.1
   unfold mkE at h0
   split at h0
   ·split at h0
    ·rename_i hp
     unfold fP at hp
     rw [ByteArray.size_extract] at hp
     omega
    ·cases h0
   ·cases h0
  rw [e]
  exact read_long a s (by omega) w
end Go.Proofs.YteapbbaollmniaaGreatDoor.H
