/- Health: what was got of a store, looked at. -/
import Derived.Test.YteapbbaollmniaaGreatDoorG0
namespace Go.Proofs.YteapbbaollmniaaGreatDoor
open Go.RowKit Go.Maps
open W
set_option linter.unusedVariables false
/-- what was got of a store under its shard's name -/
structure Gt where
 e : Int
 sd : Bool
 pl : ByteArray
def gcell (x : Gt) : List Value:=[.int .i64 x.e,.bool x.sd,.string x.pl]
def gtOf (K N : Int) (a s : ByteArray) (e : Int) : Gt:=⟨e,(snd K N a s).2,(snd K N a s).1⟩
theorem results_cell1 {fn : Func} {p : Tmp} {ty : TypeId} (h : fn.results = #[.cell p ty]) (tmps : Array Value) (P : Program) (w : World) :
  (results fn tmps).run P w = ((asAddr (tmps.getD p undef)).run P w).andThen fun a w₁=>(loadVar ty a).run P w₁:=by
 simp only [results,h]
 simp [Sem.run_bind,Result.andThen]
theorem info144 : (Tryz.prog.info? 144).map (·.size) = some 3:=by kernel_rfl
set_option maxRecDepth 20000 in
theorem ret_got {fn : Func} {a : Act} {W : World} {q : Nat} {x y z : Value} {p : Tmp} {Q : Ending -> World -> Prop}
  (hf : fn.results = #[.cell p 144]) (hp : a.tmps.getD p undef = .pointer (some ⟨q,0,none⟩)) (hd : a.defers = []) (hc : Has W q #[x,y,z] 144)
  (hQ : Q (.returned (.agg #[x,y,z])) W) : bodyPost Tryz.prog fn Q Exit.ret a W:=by
 refine bodyPost_ret (v:=.agg #[x,y,z]) ?_ hd hQ
 rw [results_cell1 hf,hp]
 have hld:=run_loadVar_mid (P:=Tryz.prog) W q 0 144 [x,y,z] _ hc.range Tryz.underlying144 rfl info144
 show (Sem.run Tryz.prog (loadVar 144 ⟨q,0,none⟩) W) = _
 rw [hld]
theorem three_cells {W : World} {b : Nat} {u v x : Value} {t : TypeId} (h : Has W b #[u,v,x] t) : (W.cell? ⟨b,0,none⟩ = some u /\ W.cell? ⟨b,1,none⟩ = some v /\ W.cell? ⟨b,2,none⟩ = some x) /\ W.frozen? ⟨b,0,none⟩ = false /\ (∀ a,(W.setCell ⟨b,0,none⟩ a).frozen? ⟨b,1,none⟩ = false) /\ ∀ a c,((W.setCell ⟨b,0,none⟩ a).setCell ⟨b,1,none⟩ c).frozen? ⟨b,2,none⟩ = false :=
 ⟨⟨h.cell 0,h.cell 1,h.cell 2⟩,h.frozen 0,fun a=>(h.set 0 a).frozen 1,fun a c=>((h.set 0 a).set 1 c).frozen 2⟩
theorem three_cells2 {W : World} {b : Nat} {u v x : Value} {t : TypeId} (h : Has W b #[u,v,x] t) : (∀ a,(W.setCell ⟨b,0,none⟩ a).cell? ⟨b,1,none⟩ = some v) /\ ∀ a c,((W.setCell ⟨b,0,none⟩ a).setCell ⟨b,1,none⟩ c).cell? ⟨b,2,none⟩ = some x :=
 ⟨fun a=>(h.set 0 a).cell 1,fun a c=>((h.set 0 a).set 1 c).cell 2⟩
theorem three_put {W : World} {b : Nat} {u v x : Value} {t : TypeId} (h : Has W b #[u,v,x] t) (a c d : Value) : Has (((W.setCell ⟨b,0,none⟩ a).setCell ⟨b,1,none⟩ c).setCell ⟨b,2,none⟩ d) b #[a,c,d] t:=by
 have:=((h.set 0 a).set 1 c).set 2 d
 exact this
theorem below_three {w W : World} {b : Nat} (h : Below w.heap.size w W) (hb : w.heap.size <= b) (a c d : Value) : Below w.heap.size w (((W.setCell ⟨b,0,none⟩ a).setCell ⟨b,1,none⟩ c).setCell ⟨b,2,none⟩ d) :=
 ((h.setCell (p:=⟨b,0,none⟩) hb a).setCell (p:=⟨b,1,none⟩) hb c).setCell (p:=⟨b,2,none⟩) hb d
set_option maxHeartbeats 4000000 in
set_option maxRecDepth 20000 in
theorem looked_any (K N : Int) (a s : ByteArray) (e : Int) (w : World) (hl : H.Lay w) : Calls Tryz.prog 74 #[.agg #[.int .i64 K,.int .i64 N],.agg #[.string a,.string s],.int .i64 e] w fun r w'=>r = .returned (.agg (gcell (gtOf K N a s e)).toArray) /\ Below w.heap.size w w':=by
 obtain ⟨wa,hwa⟩ : ∃ wa,wa = ((w.alloc (.cells #[.int .i64 K,.int .i64 N] 23)).alloc (.cells #[.string a,.string s] 101)).alloc (.cells #[.int .i64 0,.bool false,.string ⟨#[]⟩] 144):=⟨_,rfl⟩
 have hB : Below w.heap.size w wa:=by rw [hwa]; exact (((Below.refl _ w).alloc (Nat.le_refl _) _).alloc (by simp) _).alloc (by simp; omega) _
 have hX : Has wa w.heap.size #[.int .i64 K,.int .i64 N] 23:=by rw [hwa]; exact ((Has.new w w.heap.size _ 23 rfl).alloc _).alloc _
 have hO : Has wa (w.heap.size + 1) #[.string a,.string s] 101:=by rw [hwa]; exact (Has.new _ (w.heap.size + 1) _ 101 (by simp)).alloc _
 have hG : Has wa (w.heap.size + 2) #[.int .i64 0,.bool false,.string ⟨#[]⟩] 144:=by rw [hwa]; exact Has.new _ (w.heap.size + 2) _ 144 (by simp)
 have HB:=hid hB
 have HX:=hid hX
 have HG:=hid hG
 have HRD:=H.read_any a s wa (hl.below hB)
 unfold H.rdV H.obv at HRD
 have HSN : Hid (gtOf K N a s e = ⟨e,(if H.rdOk a s = true /\ H.fB s 4 = K /\ H.fB s 5 = N then (H.fP s,true) else (⟨#[]⟩,false)).2,(if H.rdOk a s = true /\ H.fB s 4 = K /\ H.fB s 5 = N then (H.fP s,true) else (⟨#[]⟩,false)).1⟩):=hid rfl
 have b0:=hO.cell 0
 have b1:=hO.cell 1
 simp only [List.getElem?_toArray,List.getElem?_cons_zero,List.getElem?_cons_succ] at b0 b1
 clear hl hB hX hG hO
 have fin : ∀ w2,Below wa.heap.size wa w2 -> ∀ x y z,Has (((w2.setCell ⟨w.heap.size + 2,0,none⟩ x).setCell ⟨w.heap.size + 2,1,none⟩ y).setCell ⟨w.heap.size + 2,2,none⟩ z) (w.heap.size + 2) #[x,y,z] 144 /\ Below w.heap.size w (((w2.setCell ⟨w.heap.size + 2,0,none⟩ x).setCell ⟨w.heap.size + 2,1,none⟩ y).setCell ⟨w.heap.size + 2,2,none⟩ z):=fun w2 h2 x y z=>⟨three_put (HG.out.below h2 HG.out.lt) x y z,below_three (HB.out.trans (h2.mono HB.out.size)) (by omega) x y z⟩
 have HFIN:=hid fin
 clear fin
 by_cases hr : H.rdOk a s = true
 ·rw [if_pos hr] at HRD
  unfold H.shc at HRD
  generalize H.fB s 4 = k at *
  generalize H.fB s 5 = n at *
  generalize H.fB s 6 = i at *
  generalize H.fD s = d at *
  generalize H.fP s = p at *
  by_cases hk : k = K /\ n = N
  ·rw [if_pos ⟨hr,hk⟩] at HSN
   rw [HSN.out]
   have qn : ∀ w,(binOp .neq 23 (.agg #[.int .i64 k,.int .i64 n]) (.agg #[.int .i64 K,.int .i64 N])).run Tryz.prog w = .ok (.bool false) w:=fun w=>by rw [neq25,hk.1,hk.2]; simp
   clear hk hr HSN
   go_enter Tryz.func74,Tryz.ntmps74
   go_wp2_with fail
   rw [<- hwa]
   clear hwa
   refine HRD.mono ?_
   clear HRD b0 b1
   rintro x w1 ⟨rfl,hb1⟩
   obtain ⟨w2,hw2⟩ : ∃ w2,w2 = w1.alloc (.cells #[.int .i64 k,.int .i64 n,.string d,.int .i64 i,.string p] 105):=⟨_,rfl⟩
   have hb2 : Below wa.heap.size wa w2:=by rw [hw2]; exact hb1.alloc hb1.size _
   have hx2:=HX.out.below hb2 HX.out.lt
   have hs2 : Has w2 w1.heap.size #[.int .i64 k,.int .i64 n,.string d,.int .i64 i,.string p] 105:=by rw [hw2]; exact Has.new _ _ _ _ rfl
   obtain ⟨f0,f1,_,_⟩:=two_cells hx2
   obtain ⟨y0,y1,y2,y3,y4⟩:=five_cells hs2
   obtain ⟨⟨g0,g1,g2⟩,g3,g4,g5⟩:=three_cells (HG.out.below hb2 HG.out.lt)
   obtain ⟨g6,g7⟩:=three_cells2 (HG.out.below hb2 HG.out.lt)
   have HF2:=hid (HFIN.out w2 hb2)
   clear hb1 hx2 hs2 hb2
   rw [hw2] at f0 f1 y0 y1 y2 y3 y4 g0 g1 g2 g3 g4 g5 g6 g7 HF2
   clear hw2
   go_wp2_with fail
   exact ret_got rfl rfl rfl (HF2.out _ _ _).1 ⟨rfl,(HF2.out _ _ _).2⟩
  ·rw [if_neg (fun h=>hk h.2)] at HSN
   rw [HSN.out]
   have qn : ∀ w,(binOp .neq 23 (.agg #[.int .i64 k,.int .i64 n]) (.agg #[.int .i64 K,.int .i64 N])).run Tryz.prog w = .ok (.bool true) w:=fun w=>by
    rw [neq25]
    have : (decide (k = K) && decide (n = N)) = false:=by
     rw [<- Bool.decide_and]
     exact decide_eq_false hk
    rw [this]
    rfl
   clear hk hr HSN
   go_enter Tryz.func74,Tryz.ntmps74
   go_wp2_with fail
   rw [<- hwa]
   clear hwa
   refine HRD.mono ?_
   clear HRD b0 b1
   rintro x w1 ⟨rfl,hb1⟩
   obtain ⟨w2,hw2⟩ : ∃ w2,w2 = w1.alloc (.cells #[.int .i64 k,.int .i64 n,.string d,.int .i64 i,.string p] 105):=⟨_,rfl⟩
   have hb2 : Below wa.heap.size wa w2:=by rw [hw2]; exact hb1.alloc hb1.size _
   have hx2:=HX.out.below hb2 HX.out.lt
   have hs2 : Has w2 w1.heap.size #[.int .i64 k,.int .i64 n,.string d,.int .i64 i,.string p] 105:=by rw [hw2]; exact Has.new _ _ _ _ rfl
   obtain ⟨f0,f1,_,_⟩:=two_cells hx2
   obtain ⟨y0,y1,y2,y3,y4⟩:=five_cells hs2
   obtain ⟨⟨g0,g1,g2⟩,g3,g4,g5⟩:=three_cells (HG.out.below hb2 HG.out.lt)
   obtain ⟨g6,g7⟩:=three_cells2 (HG.out.below hb2 HG.out.lt)
   have HF2:=hid (HFIN.out w2 hb2)
   clear hb1 hx2 hs2 hb2
   rw [hw2] at f0 f1 y0 y1 y2 y3 y4 g0 g1 g2 g3 g4 g5 g6 g7 HF2
   clear hw2
   go_wp2_with fail
   exact ret_got rfl rfl rfl (HF2.out _ _ _).1 ⟨rfl,(HF2.out _ _ _).2⟩
 ·rw [if_neg hr] at HRD
  rw [if_neg (fun h=>hr h.1)] at HSN
  rw [HSN.out]
  unfold H.noS H.shc at HRD
  clear hr HSN
  go_enter Tryz.func74,Tryz.ntmps74
  go_wp2_with fail
  rw [<- hwa]
  clear hwa
  refine HRD.mono ?_
  clear HRD b0 b1
  rintro x w1 ⟨rfl,hb1⟩
  obtain ⟨w2,hw2⟩ : ∃ w2,w2 = w1.alloc (.cells #[.int .i64 0,.int .i64 0,.string ⟨#[]⟩,.int .i64 0,.string ⟨#[]⟩] 105):=⟨_,rfl⟩
  have hb2 : Below wa.heap.size wa w2:=by rw [hw2]; exact hb1.alloc hb1.size _
  obtain ⟨⟨g0,g1,g2⟩,g3,g4,g5⟩:=three_cells (HG.out.below hb2 HG.out.lt)
  obtain ⟨g6,g7⟩:=three_cells2 (HG.out.below hb2 HG.out.lt)
  have HF2:=hid (HFIN.out w2 hb2)
  clear hb1 hb2
  rw [hw2] at g0 g1 g2 g3 g4 g5 g6 g7 HF2
  clear hw2
  go_wp2_with fail
  exact ret_got rfl rfl rfl (HF2.out _ _ _).1 ⟨rfl,(HF2.out _ _ _).2⟩
end Go.Proofs.YteapbbaollmniaaGreatDoor
