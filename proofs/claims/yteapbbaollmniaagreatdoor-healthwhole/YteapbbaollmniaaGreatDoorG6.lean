/- Health: the first ones that are sound. -/
import Derived.Test.YteapbbaollmniaaGreatDoorG5
namespace Go.Proofs.YteapbbaollmniaaGreatDoor
open Go.RowKit Go.Maps
open W
set_option linter.unusedVariables false
/-- a list in a box grew by one, and the box was written -/
theorem app_step {w2 w3 : World} {c B e t D g cap : Nat} {v : Value} {xs news : List Value} {o : Obj} (h1 : Has w2 c #[v] t) (h2 : w2.ownsRow B e 1 v D xs) (h3 : w3.ownsRow B e 1 (.slice (some ⟨g,0,none⟩) (D + 1) cap) (D + 1) (xs ++ news)) (hg : (w2.alloc o).grownBy w3 v.ownBlock) (ht : t ≠ e) : Has w3 c #[v] t /\ Only (fun q=>q = c \/ v.ownBlock = some q) w2 (w3.setCell ⟨c,0,none⟩ (.slice (some ⟨g,0,none⟩) (D + 1) cap)) /\ Has (w3.setCell ⟨c,0,none⟩ (.slice (some ⟨g,0,none⟩) (D + 1) cap)) c #[.slice (some ⟨g,0,none⟩) (D + 1) cap] t /\ (w3.setCell ⟨c,0,none⟩ (.slice (some ⟨g,0,none⟩) (D + 1) cap)).ownsRow B e 1 (.slice (some ⟨g,0,none⟩) (D + 1) cap) (D + 1) (xs ++ news):=by
 have ho : Only (fun q=>v.ownBlock = some q) w2 w3:=((Only.refl _ _).alloc o).trans (Only.of_grown hg fun k h=>h) fun _ h=>.inl h
 have hc : Has w3 c #[v] t:=ho.has h1 fun e'=>by
  obtain ⟨_,cur,hh⟩:=row_has h2 e'
  exact Has.ne h1 hh ht rfl
 obtain ⟨_,cur,hh⟩:=row_has h3 (q:=g) rfl
 refine ⟨hc,(ho.mono fun i hi=>.inr hi).set (.inl (.inl rfl)) _,hc.set 0 _,row_block h3 fun k hk hl=>?_⟩
 cases hk
 have hne : g ≠ c:=Has.ne hh hc (Ne.symm ht)
 exact ((Only.refl (fun q=>q = c) w3).set (p:=⟨c,0,none⟩) (.inl rfl) _).block g hl hne
/-- another box, another list, beside the one that grew -/
theorem app_other {w2 : World} {c c' B e t t' D : Nat} {v v' : Value} {cs : Array Value} {xs : List Value} {w5 : World} (ho : Only (fun q=>q = c \/ v.ownBlock = some q) w2 w5) (h1 : Has w2 c #[v'] t) (h2 : w2.ownsRow B e 1 v D xs) (h : Has w2 c' cs t') (hn : t' ≠ t /\ t' ≠ e) : Has w5 c' cs t':=ho.has h fun hc=>by
 rcases hc with hc | hc
 ·exact Has.ne h h1 hn.1 hc
 ·obtain ⟨_,cur,hh⟩:=row_has h2 hc
  exact Has.ne h hh hn.2 rfl
theorem app_row {w2 w5 : World} {c B e e' t D D' : Nat} {v v' u : Value} {xs ys : List Value} (ho : Only (fun q=>q = c \/ v.ownBlock = some q) w2 w5) (h1 : Has w2 c #[v'] t) (h2 : w2.ownsRow B e 1 v D xs) (h : w2.ownsRow B e' 1 u D' ys) (hn : e' ≠ t /\ e' ≠ e) : w5.ownsRow B e' 1 u D' ys:=row_block h fun k hk hl=>ho.block k hl fun hc=>by
 obtain ⟨_,cur,hk'⟩:=row_has h hk
 rcases hc with hc | hc
 ·exact Has.ne hk' h1 hn.1 hc
 ·obtain ⟨_,cur',hh⟩:=row_has h2 hc
  exact Has.ne hk' hh hn.2 rfl
theorem el3 : El 56 3 1:=el_of (z:=.int .i64 0) (bytes:=8) Tryz.underlying56 (by kernel_rfl) rfl (by decide) (by decide)
theorem wpListIn_app3 {F : Fence} {nf : Nat} {T e : TypeId} {size : Nat} (E : El T e size) {ops : Array Oper} {rest : List Oper} {o : Oper} {a : Act} {w : World} {Q : Exit -> Act -> World -> Prop} (hgd : o.guard = none) (s x : Operand)
  (ho : o.op = .call { callee:=.builtin .append,args:=#[s,x],argTypes:=#[T,T] }) (base : Nat) (v : Value) (n : Nat) (xs : List Value) (hs : a.eval s = v) (hown : w.ownsRow base e size v n xs) (ad : Addr) (m c : Nat) (news : List Value) (hx : a.eval x = .slice (some ad) m c) (hm : 0 < m) (hl : news.length = m * size) (hnews : ∀ j u,news[j]? = some u -> w.cell? (ad.add j) = some u) (h1 : ∀ u ∈ news,u.oneCell' = true) (hb : n + m <= 100000000) (hbase : base <= w.heap.size)
  (h : ∀ g cap w',w'.ownsRow base e size (.slice (some ⟨g,0,none⟩) (n + m) cap) (n + m) (xs ++ news) -> w.grownBy w' v.ownBlock -> (v.ownBlock = some g \/ w.heap.size <= g) -> wpListIn F nf Tryz.prog ops Q rest (a.put o.dst (.slice (some ⟨g,0,none⟩) (n + m) cap)) w') : wpListIn F nf Tryz.prog ops Q (o :: rest) a w:=by
 obtain ⟨g,cap,w',r1,r2,r3,_,r5⟩:=run_app2 E w o.type base v n xs hown ad m c news hm hl hnews h1 hb hbase
 refine wpListIn_plain hgd fun K hK'=>?_
 unfold Oper.wpIn
 refine ⟨?_,?_⟩
 ·simp [Oper.about,ho,resolve,Target.leads,Sem.run_pure]
 ·rw [Oper.semAt_plain F _ _ (by rw [ho]; intro c hc'; cases hc')]
  simp [execOp,ho,resolve,invoke,builtin,hs,hx,r1,Result.andThen]
  exact hK' _ _ (h g cap w' r2 r3 r5)
theorem row_down {w : World} {base base' k n : Nat} {e : TypeId} {v : Value} {xs : List Value} (h : w.ownsRow base e k v n xs) (hb : base' <= base) : w.ownsRow base' e k v n xs:=by
 obtain ⟨h1,h2⟩:=h
 refine ⟨h1,?_⟩
 rcases h2 with h2 | ⟨g,cap,cur,e1,e2,e3⟩
 ·exact .inl h2
 ·exact .inr ⟨g,cap,cur,e1,Nat.le_trans hb e2,e3⟩
/-- the two lists that are gathered, each in its box -/
structure FX (bk bh bp B : Nat) (K : Int) (s : List (Nat × ByteArray)) (vh vp : Value) (W : World) : Prop where
 h : Has W bh #[vh] 56
 p : Has W bp #[vp] 80
 rh : W.ownsRow B 3 1 vh s.length (rdInts s)
 rp : W.ownsRow B 9 1 vp s.length (rdStrs s)
 k : Has W bk #[.int .i64 K] 3
theorem row_grown {X Y : World} {row : Option Nat} {base k n : Nat} {e : TypeId} {v : Value} {xs : List Value} (h : X.ownsRow base e k v n xs) (hg : X.grownBy Y row) (hr : ∀ r,row = some r -> ∃ o : Obj,X.heap[r]? = some o /\ o.isCells = false) : Y.ownsRow base e k v n xs:=row_block h fun g hg' hl=>hg.block g hl fun e'=>by
 obtain ⟨_,cur,hh⟩:=row_has h hg'
 obtain ⟨o,ho,hc⟩:=hr g e'.symm
 unfold Has at hh
 rw [hh] at ho
 cases ho
 cases hc
theorem FX.grown {bk bh bp B : Nat} {K : Int} {s : List (Nat × ByteArray)} {vh vp : Value} {X Y : World} {row : Option Nat} (h : FX bk bh bp B K s vh vp X) (hg : X.grownBy Y row) (hr : ∀ r,row = some r -> ∃ o : Obj,X.heap[r]? = some o /\ o.isCells = false) : FX bk bh bp B K s vh vp Y:=by
 have hb : ∀ {q : Nat} {cs : Array Value} {t : TypeId},Has X q cs t -> Has Y q cs t:=fun {q cs t} hq=>(Only.of_grown (S:=fun i=>row = some i) hg fun k hk=>hk).has hq (fun e=>by
  obtain ⟨o,ho,hc⟩:=hr q e
  unfold Has at hq
  rw [hq] at ho
  cases ho
  cases hc)
 exact ⟨hb h.h,hb h.p,row_grown h.rh hg hr,row_grown h.rp hg hr,hb h.k⟩
theorem FX.ends {n : Nat} {bh bp B D : Nat} {K : Int} {s : List (Nat × ByteArray)} {vh vp : Value} {w W : World} (h : FX n bh bp B K s vh vp W) (hD : W.heap[D]? = some (.deferred (some []))) (hDn : w.heap.size <= D) (hb : Below w.heap.size w W) (hB : B = w.heap.size + 4) : (W.putObj D (.deferred none)).ownsRow w.heap.size 3 1 vh s.length (rdInts s) /\ (W.putObj D (.deferred none)).ownsRow w.heap.size 9 1 vp s.length (rdStrs s) /\ Below w.heap.size w (W.putObj D (.deferred none)):=by
 have hf:=h.grown (grownBy_putObj' W D (.deferred none)) (fun r e=>by cases e; exact ⟨_,hD,rfl⟩)
 refine ⟨row_down hf.rh (by omega),row_down hf.rp (by omega),?_⟩
 exact hb.trans ((Only.of_grown (S:=fun i=>i = D) (grownBy_putObj' W D (.deferred none)) fun k hk=>by cases hk; rfl).below hb.size (fun i hi=>by omega))
set_option maxHeartbeats 8000000 in
set_option maxRecDepth 20000 in
theorem first_any {w : World} {g : Nat} {gs : List Gt} (hg : Has w g (gRow gs gs.length) 144) (hgs : gs.length <= 1000) (K : Int) (hK : 1 <= K) : Calls Tryz.prog 36 #[.slice (some ⟨g,0,none⟩) gs.length gs.length,.int .i64 K] w fun e w'=>∃ vh vp,e = .returned (.tuple #[vh,vp]) /\ w'.ownsRow w.heap.size 3 1 vh ((gsnd 0 gs).take K.toNat).length (rdInts ((gsnd 0 gs).take K.toNat)) /\ w'.ownsRow w.heap.size 9 1 vp ((gsnd 0 gs).take K.toNat).length (rdStrs ((gsnd 0 gs).take K.toNat)) /\ Below w.heap.size w w':=by
 have HGL : Hid (g < w.heap.size):=hid hg.lt
 have HG:=hid hg
 clear hg
 refine (callsIn_wide (n:=6)).1 ?_
 refine callsIn_of_wp_marks Tryz.func36 rfl trivial ?_ rfl
 simp only [Tryz.ntmps36,List.size_toArray,List.length_cons,List.length_nil,Nat.reduceAdd,Nat.reduceSub,Array.replicate_succ,Array.replicate_zero,List.push_toArray,List.append_toArray,List.nil_append,List.cons_append]
 refine wpIn_wide.2 ?_
 go_wp2_with fail
 have hBk:=sound_any (some ⟨g,0,none⟩) gs.length gs.length (((w.alloc (.cells #[.int .i64 K] 3)).alloc (.cells #[.slice none 0 0] 56)).alloc (.cells #[.slice none 0 0] 80))
 refine hBk.mono ?_
 rintro e w1 ⟨rfl,rfl⟩
 clear hBk
 go_wp2_with fail
 obtain ⟨W2,hW2⟩ : ∃ W2,W2 = (((w.alloc (.cells #[.int .i64 K] 3)).alloc (.cells #[.slice none 0 0] 56)).alloc (.cells #[.slice none 0 0] 80)).alloc (.cells #[.slice (some ⟨g,0,none⟩) gs.length gs.length] 82):=⟨_,rfl⟩
 have hs2 : W2.heap.size = w.heap.size + 4:=by rw [hW2]; simp
 have hb2 : Below w.heap.size w W2:=by rw [hW2]; exact ((((Below.refl _ _).alloc (Nat.le_refl _) _).alloc (by simp) _).alloc (by simp; omega) _).alloc (by simp; omega) _
 have hcb : Has W2 (w.heap.size + 3) #[.slice (some ⟨g,0,none⟩) gs.length gs.length] 82:=by rw [hW2]; exact Has.new _ (w.heap.size + 3) _ _ (by simp)
 have hp0 : Has W2 (w.heap.size + 2) #[.slice none 0 0] 80:=by rw [hW2]; exact (Has.new _ (w.heap.size + 2) _ _ (by simp)).alloc _
 have hh0 : Has W2 (w.heap.size + 1) #[.slice none 0 0] 56:=by rw [hW2]; exact ((Has.new _ (w.heap.size + 1) _ _ (by simp)).alloc _).alloc _
 have hk0 : Has W2 w.heap.size #[.int .i64 K] 3:=by rw [hW2]; exact (((Has.new w w.heap.size _ _ rfl).alloc _).alloc _).alloc _
 try simp only [World.size_alloc]
 rw [<- hW2]
 clear hW2
 have hrow:=HG.out.below hb2 HGL.out
 obtain ⟨T,hT⟩ : ∃ T : Nat -> Prop,T = fun i=>i = w.heap.size + 1 \/ i = w.heap.size + 2 \/ w.heap.size + 4 <= i:=⟨_,rfl⟩
 have hTcb : ¬ T (w.heap.size + 3):=fun hh=>by
  rw [hT] at hh
  omega
 have hTg : ¬ T g:=fun hh=>by
  rw [hT] at hh
  have:=HGL.out
  omega
 have hTn : ∀ i,w.heap.size + 4 <= i -> T i:=fun i hi=>by rw [hT]; exact .inr (.inr hi)
 have hT1 : T (w.heap.size + 1):=by rw [hT]; exact .inl rfl
 have hT2 : T (w.heap.size + 2):=by rw [hT]; exact .inr (.inl rfl)
 have hTw : ∀ i,T i -> w.heap.size <= i:=fun i hi=>by
  rw [hT] at hi
  omega
 have hm1:=hgs
 obtain ⟨B,hB⟩ : ∃ B,B = W2.heap.size:=⟨_,rfl⟩
 have hB4 : B = w.heap.size + 4:=by rw [hB,hs2]
 refine wpIn_wide (n:=6).1 ?_
 refine wpIn_rangeFunc_ownH (α:=Sn gs.length) (F:=Fence.wide) (n:=6) rfl (by omega) (gf:=75) (lb:=#[.pointer (some ⟨w.heap.size + 3,0,none⟩)]) rfl trivial (enters_of Tryz.func75 (by kernel_rfl) rfl)
  (snd_stops 5 (w.heap.size + 3) g gs hgs T W2 hcb hrow hTcb hTg (fun i hi=>hTn i (by omega)))
  (fun h1 h2=>h1.trans h2 fun _ h=>.inl h)
  (fun W l o o' hl ho hc hw=>Only.of_grown (grownBy_putObj' W l o') fun k hk=>by cases hk; exact hTn _ (by omega))
  (Below.refl _ _) (fun _=>rfl)
  (fun (pre : List (Sn gs.length)) W=>(∃ vh vp,FX w.heap.size (w.heap.size + 1) (w.heap.size + 2) B K (snP pre) vh vp W) /\ ((snP pre).length : Int) < K /\ Only T W2 W)
  (fun c (pre : List (Sn gs.length)) W=>c = .exit 0 /\ (∃ vh vp,FX w.heap.size (w.heap.size + 1) (w.heap.size + 2) B K (snP pre) vh vp W) /\ ((snP pre).length : Int) = K /\ Only T W2 W)
  (fun pre X Y row hs hg hr=>⟨by
    obtain ⟨vh,vp,hf⟩:=hs.1
    exact ⟨vh,vp,hf.grown hg fun r e=>(hr r e).2⟩,hs.2.1,
   hs.2.2.trans (Only.of_grown (S:=T) hg fun k hk=>hTn k (by have:=(hr k hk).1; omega)) fun _ h=>.inl h⟩)
  (fun c pre X Y row hs hg hr=>⟨hs.1,by
    obtain ⟨vh,vp,hf⟩:=hs.2.1
    exact ⟨vh,vp,hf.grown hg fun r e=>(hr r e).2⟩,hs.2.2.1,
   hs.2.2.2.trans (Only.of_grown (S:=T) hg fun k hk=>hTn k (by have:=(hr k hk).1; omega)) fun _ h=>.inl h⟩)
  ⟨⟨_,_,hh0,hp0,World.ownsRow_nil _ _ _ _,World.ownsRow_nil _ _ _ _,hk0⟩,by show ((0 : Nat) : Int) < K; omega,Only.refl _ _⟩
  (fun x a' W=>a' = { tmps:=#[.slice (some ⟨g,0,none⟩) gs.length gs.length,.int .i64 K,undef,.pointer (some ⟨w.heap.size,0,none⟩),.slice none 0 0,.slice none 0 0,.pointer (some ⟨w.heap.size + 1,0,none⟩),.pointer (some ⟨w.heap.size + 2,0,none⟩),.int .i64 (x.1.1 : Int),.string x.1.2,.slice (some ⟨g,0,none⟩) gs.length gs.length,.func (.func 75) #[] #[.pointer (some ⟨w.heap.size + 3,0,none⟩)],.int .i64 (x.1.1 : Int),.string x.1.2,undef,undef,undef,undef,undef,undef,undef,undef,undef,undef,undef,undef,undef,undef],defers:=[] })
  (fun x a' _ X Y row hs hg hr=>hs)
  ?assign ?body ?done ?stop
 case assign =>
  rintro l pre x W K' hi hK'
  have hsa:=@Oper.semAt_some
  unfold snV at *
  gi_wp2
  exact hK' _ _ ((KeepsOthers.refl _).from _) (Only.refl _ _) hi (by first | rfl | simp)
 case body =>
  rintro l pre x a' W hl hr ⟨⟨vh,vp,hf⟩,hlk,hi2⟩ rfl hlt
  have hsa:=@Oper.semAt_some
  have HF:=hid hf
  have HI2:=hid hi2
  have k0 : W.cell? ⟨w.heap.size + 1,0,none⟩ = some vh:=hf.h.cell 0
  obtain ⟨m,hm⟩ : ∃ m,m = (snP pre).length:=⟨_,rfl⟩
  have hml : m <= 1000:=by
   rw [hm]
   unfold snP
   rw [List.length_map]
   omega
  have HMM:=hid hm
  have hB' : B <= W.heap.size:=by have:=hi2.size; omega
  have hrh:=hf.rh
  have hrp:=hf.rp
  rw [<- hm] at hrh hrp hlk
  have HRH:=hid hrh
  have HRP:=hid hrp
  have HS : Hid (rdInts (snP (pre ++ [x])) = rdInts (snP pre) ++ [.int .i64 (x.1.1 : Int)] /\ rdStrs (snP (pre ++ [x])) = rdStrs (snP pre) ++ [.string x.1.2] /\ (snP (pre ++ [x])).length = m + 1):=hid (by
   rw [snP_snoc,hm]
   simp [rdInts,rdStrs])
  clear hf hi2 hr hrh hrp hm
  have hkk : ∀ (W' : World),Only (fun q=>q = w.heap.size + 1 \/ vh.ownBlock = some q) W W' -> Has W' w.heap.size #[.int .i64 K] 3:=fun W' ho=>ho.has HF.out.k fun hc=>by
   rcases hc with hc | hc
   ·omega
   ·have:=(row_has HRH.out hc).1
    omega
  have HKK:=hid hkk
  have hkk2 : ∀ (W1 W' : World) (c : Nat),c = w.heap.size + 2 -> Has W1 w.heap.size #[.int .i64 K] 3 -> Only (fun q=>q = c \/ vp.ownBlock = some q) W1 W' -> Has W' w.heap.size #[.int .i64 K] 3:=fun W1 W' c hc hk ho=>ho.has hk fun hc'=>by
   rcases hc' with hc' | hc'
   ·omega
   ·have:=(row_has HRP.out hc').1
    omega
  have HKK2:=hid hkk2
  clear hkk hkk2
  have wm : ((m + 1 : Nat) : Int) = (m : Int) + 1:=by omega
  gi_wp2_with (gi_at_builtin; first | (refine wpListIn_app3 el3 rfl _ _ rfl B _ m _ rfl (HRH.out.alloc _) ⟨W.heap.size,0,none⟩ 1 1 [.int .i64 (x.1.1 : Int)] rfl (by decide) rfl (new_cells W [.int .i64 (x.1.1 : Int)] 3) (by simp [Value.oneCell']) (by omega) (by simp; omega) ?_; intro g3 cap3 w3 hr3 hg3 hf3; have A3:=hid (app_step HF.out.h HRH.out hr3 hg3 (by decide)); have k2:=A3.out.1.cell 0; have k2f:=A3.out.1.frozen 0; have H3:=hid (app_other A3.out.2.1 HF.out.h HRH.out HF.out.p (by decide)); have H4:=hid (app_row A3.out.2.1 HF.out.h HRH.out HRP.out (by decide)); have HC:=hid (HKK.out _ A3.out.2.1); have k3:=H3.out.cell 0; have z3:=A3.out.2.1.size; have G3:=hid hg3; clear k0 hr3 hg3 hf3) | (refine wpListIn_app3 el9 rfl _ _ rfl B _ m _ rfl (H4.out.alloc _) ⟨w3.heap.size,0,none⟩ 1 1 [.string x.1.2] rfl (by decide) rfl (by simpa using new_cells (w3.setCell ⟨w.heap.size + 1,0,none⟩ (.slice (some ⟨g3,0,none⟩) (m + 1) cap3)) [.string x.1.2] 9) (by simp [Value.oneCell']) (by omega) (by simp at z3 ⊢; omega) ?_; intro g4 cap4 w4 hr4 hg4 hf4; have A4:=hid (app_step H3.out H4.out hr4 hg4 (by decide)); have k4:=A4.out.1.cell 0; have k4f:=A4.out.1.frozen 0; have H5:=hid (app_other A4.out.2.1 H3.out H4.out A3.out.2.2.1 (by decide)); have H6:=hid (app_row A4.out.2.1 H3.out H4.out A3.out.2.2.2 (by decide)); have H7:=hid (HKK2.out _ _ _ rfl HC.out A4.out.2.1); have k5:=H5.out.cell 0; have k7:=H7.out.cell 0; have G4:=hid hg4; clear k2 k2f k3 hr4 hg4 hf4))
  all_goals
   rename_i hq
   have ho : Only T W (w4.setCell ⟨w.heap.size + 2,0,none⟩ (.slice (some ⟨g4,0,none⟩) (m + 1) cap4)):=(A3.out.2.1.mono fun i hi=>by
    rcases hi with hi | hi
    ·rw [hi]; exact hT1
    ·exact hTn i (by have:=(row_has HRH.out hi).1; omega)).trans (A4.out.2.1.mono fun i hi=>by
    rcases hi with hi | hi
    ·rw [hi]; exact hT2
    ·exact hTn i (by have:=(row_has HRP.out hi).1; omega)) fun i hi=>.inl hi
   have hkf : KeepsFrom W2.heap.size W (w4.setCell ⟨w.heap.size + 2,0,none⟩ (.slice (some ⟨g4,0,none⟩) (m + 1) cap4)):=by
    refine ⟨ho.size,fun k o hBk hk hnc=>?_⟩
    have hkl : k < W.heap.size:=(Array.getElem?_eq_some_iff.1 hk).1
    have e1:=A3.out.2.1.block k hkl (fun hc=>by
     rcases hc with hc | hc
     ·omega
     ·obtain ⟨_,cur,hh⟩:=row_has HRH.out hc
      unfold Has at hh
      rw [hh] at hk
      cases hk
      cases hnc)
    have e2:=A4.out.2.1.block k (Nat.lt_of_lt_of_le hkl A3.out.2.1.size) (fun hc=>by
     rcases hc with hc | hc
     ·omega
     ·obtain ⟨_,cur,hh⟩:=row_has HRP.out hc
      unfold Has at hh
      rw [hh] at hk
      cases hk
      cases hnc)
    exact (e2.trans e1).trans hk
   have hfx : FX w.heap.size (w.heap.size + 1) (w.heap.size + 2) B K (snP (pre ++ [x])) (.slice (some ⟨g3,0,none⟩) (m + 1) cap3) (.slice (some ⟨g4,0,none⟩) (m + 1) cap4) (w4.setCell ⟨w.heap.size + 2,0,none⟩ (.slice (some ⟨g4,0,none⟩) (m + 1) cap4)):=by
    obtain ⟨s1,s2,s3⟩:=HS.out
    refine ⟨H5.out,A4.out.2.2.1,?_,?_,H7.out⟩
    ·rw [s1,s3]; exact H6.out
    ·rw [s2,s3]; exact A4.out.2.2.2
   have hln:=HS.out.2.2
   first
   | exact ⟨hkf,rfl,⟨_,_,hfx⟩,by rw [hln]; have:=beq_iff_eq.1 hq; omega,HI2.out.trans ho fun i hi=>.inl hi⟩
   | exact ⟨hkf,ho,⟨_,_,hfx⟩,by rw [hln]; have:=beq_eq_false_iff_ne.1 hq; omega,HI2.out.trans ho fun i hi=>.inl hi⟩
 case done =>
  rintro D ys W hD hys ⟨⟨vh,vp,hf⟩,hlk,hi2⟩ hKD
  have k1 : W.cell? ⟨w.heap.size + 1,0,none⟩ = some vh:=hf.h.cell 0
  have k2 : W.cell? ⟨w.heap.size + 2,0,none⟩ = some vp:=hf.p.cell 0
  have hsn : snP ys = (gsnd 0 gs).take K.toNat:=by
   rw [show snP ys = gsnd 0 gs from hys] at hlk ⊢
   rw [List.take_of_length_le (by omega)]
  have hBW:=(hb2.trans (hi2.below (by omega) hTw))
  have HE:=hid (fun nq : Nat=>FX.ends (W:=W.drewN nq) ⟨hf.h,hf.p,hf.rh,hf.rp,hf.k⟩ hKD (by omega) (below_drewN hBW nq) hB4)
  clear hBW
  rw [hsn] at HE
  have HKD:=hid hKD
  clear hys hlk hi2 hKD hf hT hTn hTw
  go_wp2_with fail
  go_quiet (fail)
  go_wp2_with fail
  refine ⟨by simp,.inl ⟨_,_,rfl,run_takeDeferred HKD.out,?_⟩⟩
  exact ⟨_,results_tmp2 rfl _ _ _,vh,vp,rfl,HE.out _⟩
 case stop =>
  rintro D c pre W hD hpre ⟨rfl,⟨vh,vp,hf⟩,hlk,hi2⟩ hKD
  have k1 : W.cell? ⟨w.heap.size + 1,0,none⟩ = some vh:=hf.h.cell 0
  have k2 : W.cell? ⟨w.heap.size + 2,0,none⟩ = some vp:=hf.p.cell 0
  have hsn : snP pre = (gsnd 0 gs).take K.toNat:=by
   have hp : snP pre <+: gsnd 0 gs:=hpre
   rw [List.prefix_iff_eq_take.1 hp]
   congr 1
   omega
  have hBW:=(hb2.trans (hi2.below (by omega) hTw))
  have HE:=hid (fun nq : Nat=>FX.ends (W:=W.drewN nq) ⟨hf.h,hf.p,hf.rh,hf.rp,hf.k⟩ hKD (by omega) (below_drewN hBW nq) hB4)
  clear hBW
  rw [hsn] at HE
  have HKD:=hid hKD
  clear hpre hlk hi2 hKD hf hT hTn hTw
  refine wpIn_wide (n:=6).2 ?_
  go_wp2_with fail
  go_quiet (fail)
  go_wp2_with fail
  refine ⟨by simp,.inl ⟨_,_,rfl,run_takeDeferred HKD.out,?_⟩⟩
  exact ⟨_,results_tmp2 rfl _ _ _,vh,vp,rfl,HE.out _⟩
end Go.Proofs.YteapbbaollmniaaGreatDoor
