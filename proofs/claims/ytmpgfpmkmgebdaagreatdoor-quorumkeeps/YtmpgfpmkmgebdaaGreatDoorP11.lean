/- Quorum: something is done with each store that answers. -/
import Derived.Test.YtmpgfpmkmgebdaaGreatDoorQ3
import Derived.Test.YtmpgfpmkmgebdaaGreatDoorQ4
namespace Go.Proofs.YtmpgfpmkmgebdaaGreatDoor
open Go.RowKit Go.Maps
open W
set_option linter.unusedVariables false
/-- what a function does with a store is f; beside the world and the list, the blocks of P stand -/
def DoIs (w0 w : World) (b g N : Nat) (P : Nat → Prop) (F : Nat) (caps : Array Value) (f : Nat → Hd → Wd → Int × Hd × Wd) : Prop :=
  ∀ (T : Nat → Prop) (W : World) (V : Wd) (l : List Hd) (i : Nat) (h : Hd) (m : Nat), (∀ j, P j → T j) → ¬ T g → WT w0 W b V (fun j => T j ∨ j = g) → Kpt P w W → AllAt W g l → Ok m N V → m ≤ 900000 → l[i]? = some h → i < N →
    Calls Tryz.prog F (#[.int .i64 (i : Int), .pointer (some ⟨g, i * 13, none⟩)] ++ caps) W fun e W' => e = .returned (er (f i h V).1) ∧ WT w0 W' b (f i h V).2.2 (fun j => T j ∨ j = g) ∧ Kpt T W W' ∧ AllAt W' g (l.set i (f i h V).2.1) ∧ Ok (m + 2) N (f i h V).2.2 ∧ (f i h V).2.1.ans = h.ans
theorem rows_flags {cs : Array Value} {l l' : List Hd} (h : Rows13 cs l) (h' : Rows13 cs l') : l.map (·.ans) = l'.map (·.ans) := by
  have hl : l.length = l'.length := by
    have := h.size
    have := h'.size
    omega
  apply List.ext_getElem?
  intro j
  rw [List.getElem?_map, List.getElem?_map]
  by_cases hj : j < l.length
  · obtain ⟨x, hx⟩ : ∃ x, l[j]? = some x := ⟨_, List.getElem?_eq_getElem hj⟩
    obtain ⟨y, hy⟩ : ∃ y, l'[j]? = some y := ⟨_, List.getElem?_eq_getElem (by omega)⟩
    have e1 := h.at' j x hx 0 _ rfl
    have e2 := h'.at' j y hy 0 _ rfl
    rw [e1] at e2
    rw [hx, hy]
    simp at e2
    simp [e2]
  · rw [List.getElem?_eq_none (by omega), List.getElem?_eq_none (by omega)]
theorem flags_one {W : World} {g : Nat} {l : List Hd} {fl : List Bool} (h : AllAt W g l) (k : Flags W g fl) : l.map (·.ans) = fl := by
  obtain ⟨l', ⟨cs', h3, h4⟩, rfl⟩ := k
  obtain ⟨cs, h1, h2⟩ := h
  have : cs = cs' := by
    unfold Has at h1 h3
    rw [h1] at h3
    cases h3
    rfl
  subst this
  exact rows_flags h2 h4
/-- where one has come to behind some -/
def stE (f : Nat → Hd → Wd → Int × Hd × Wd) (l : List Hd) (V : Wd) {n : Nat} (pre : List (Sn n)) : ES := (pre.map snN).foldl (oneE f) ⟨l, 0, V, false⟩
theorem stE_snoc (f : Nat → Hd → Wd → Int × Hd × Wd) (l : List Hd) (V : Wd) {n : Nat} (pre : List (Sn n)) (x : Sn n) : stE f l V (pre ++ [x]) = oneE f (stE f l V pre) x.1 := by
  unfold stE
  rw [List.map_append, List.foldl_append]
  rfl
theorem set_ans {l : List Hd} {i : Nat} {h h' : Hd} (hh : l[i]? = some h) (he : h'.ans = h.ans) : (l.set i h').map (·.ans) = l.map (·.ans) := by
  apply List.ext_getElem?
  intro j
  rw [List.getElem?_map, List.getElem?_map]
  by_cases hj : j = i
  · subst hj
    have hl : j < l.length := (List.getElem?_eq_some_iff.1 hh).1
    rw [List.getElem?_set_self hl, hh]
    simp [he]
  · rw [List.getElem?_set_ne (by omega)]
theorem res2 {fn : Func} {tmps : Array Value} {W : World} {b c : Nat} {x y : Int} {p u : Tmp} (hf : fn.results = #[.cell p 3, .cell u 28]) (hp : tmps.getD p undef = .pointer (some ⟨b, 0, none⟩)) (hv : tmps.getD u undef = .pointer (some ⟨c, 0, none⟩)) (h1 : W.cell? ⟨b, 0, none⟩ = some (.int .i64 x)) (h2 : W.cell? ⟨c, 0, none⟩ = some (.int .i64 y)) : (results fn tmps).run Tryz.prog W = .ok (.tuple #[.int .i64 x, .int .i64 y]) W := by
  simp only [results, hf]
  simp only [Array.getD_eq_getD_getElem?] at hp hv
  simp [go_sem, hp, hv, h1, h2]
/-- what stands while one goes through all -/
structure EI (w0 w : World) (b g N M : Nat) (P : Nat → Prop) (l : List Hd) (fv : Value) (r1 r2 : Int) (s : ES) (k : Nat) (W : World) : Prop where
  wt : WT w0 W b s.V (fun j => (P j ∨ (w.heap.size ≤ j ∧ j < w.heap.size + 7)) ∨ j = g)
  kp : Kpt P w W
  all : AllAt W g s.l
  fl : s.l.map (·.ans) = l.map (·.ans)
  ok : Ok (M + 2 * k) N s.V
  b0 : Has W w.heap.size #[fv] 86
  b1 : Has W (w.heap.size + 1) #[.int .i64 r1] 3
  b2 : Has W (w.heap.size + 2) #[.int .i64 r2] 28
  b3 : Has W (w.heap.size + 3) #[.int .i64 (s.dn : Int)] 3
  dk : s.dn ≤ k
theorem EI.put {w0 w W : World} {b g N M k i : Nat} {P : Nat → Prop} {l : List Hd} {fv : Value} {r1 r2 : Int} {s : ES} (h : EI w0 w b g N M P l fv r1 r2 s k W) (o : Obj) (hi : i = w.heap.size + 5 ∨ i = w.heap.size + 6) (hP : ∀ j, P j → j < w.heap.size) (hw : w0.heap.size ≤ w.heap.size) (hg : g < w.heap.size) : EI w0 w b g N M P l fv r1 r2 s k (W.putObj i o) := by
  have ho : Only (fun j => j = i) W (W.putObj i o) := Only.of_grown (grownBy_putObj' W i o) fun k hk => by cases hk; rfl
  exact ⟨h.wt.list (g := i) (.inl (.inr (by omega))) (by omega) ho, h.kp.trans ⟨ho.size, fun j hj => ho.block j (h.wt.lt j (.inl (.inl hj))) (by have := hP j hj; omega)⟩, h.all.only ho (by omega), h.fl, h.ok, ho.has h.b0 (by omega), ho.has h.b1 (by omega), ho.has h.b2 (by omega), ho.has h.b3 (by omega), h.dk⟩
theorem EI.did {w0 w W W' : World} {b g N M k i : Nat} {P : Nat → Prop} {l : List Hd} {fv : Value} {r1 r2 : Int} {s : ES} {h h' : Hd} {V' : Wd} {c : Bool} (hE : EI w0 w b g N M P l fv r1 r2 s k W) (hh : s.l[i]? = some h) (ha : h'.ans = h.ans) (hw : WT w0 W' b V' (fun j => (P j ∨ (w.heap.size ≤ j ∧ j < w.heap.size + 7)) ∨ j = g)) (hk : Kpt (fun j => P j ∨ (w.heap.size ≤ j ∧ j < w.heap.size + 7)) W W') (hA : AllAt W' g (s.l.set i h')) (ho : Ok (M + 2 * k + 2) N V') : EI w0 w b g N M P l fv r1 r2 ⟨s.l.set i h', s.dn, V', c⟩ (k + 1) W' :=
  ⟨hw, hE.kp.trans (hk.sub fun j hj => .inl hj), hA, (set_ans hh ha).trans hE.fl, by rw [show M + 2 * (k + 1) = M + 2 * k + 2 by omega]; exact ho, hk.has (.inr (by omega)) hE.b0, hk.has (.inr (by omega)) hE.b1, hk.has (.inr (by omega)) hE.b2, hk.has (.inr (by omega)) hE.b3, by have := hE.dk; show s.dn ≤ k + 1; omega⟩
/-- one of the boxes is written -/
theorem EI.box {w0 w W W' : World} {b g N M k q : Nat} {P : Nat → Prop} {l : List Hd} {fv : Value} {r1 r2 r1' r2' : Int} {s s' : ES} (hE : EI w0 w b g N M P l fv r1 r2 s k W) (ho : Only (fun j => j = q) W W') (hq : w.heap.size + 1 ≤ q ∧ q < w.heap.size + 4) (hs : s'.l = s.l ∧ s'.V = s.V) (h1 : Has W' (w.heap.size + 1) #[.int .i64 r1'] 3) (h2 : Has W' (w.heap.size + 2) #[.int .i64 r2'] 28) (h3 : Has W' (w.heap.size + 3) #[.int .i64 (s'.dn : Int)] 3) (hdk : s'.dn ≤ k) (hP : ∀ j, P j → j < w.heap.size) (hw : w0.heap.size ≤ w.heap.size) (hg : g < w.heap.size) : EI w0 w b g N M P l fv r1' r2' s' k W' :=
  ⟨by rw [hs.2]; exact hE.wt.list (g := q) (.inl (.inr (by omega))) (by omega) ho, hE.kp.trans ⟨ho.size, fun j hj => ho.block j (hE.wt.lt j (.inl (.inl hj))) (by have := hP j hj; omega)⟩, by rw [hs.1]; exact hE.all.only ho (by omega), by rw [hs.1]; exact hE.fl, by rw [hs.2]; exact hE.ok, ho.has hE.b0 (by omega), h1, h2, h3, hdk⟩
theorem oneE_is {f : Nat → Hd → Wd → Int × Hd × Wd} {s : ES} {i : Nat} {h : Hd} (hc : s.cut = false) (hh : s.l[i]? = some h) : oneE f s i = ⟨s.l.set i (f i h s.V).2.1, if (f i h s.V).1 = 0 then s.dn + 1 else s.dn, (f i h s.V).2.2, decide ((f i h s.V).1 = 56)⟩ := by
  unfold oneE
  rw [hc, hh]
  simp
set_option maxHeartbeats 8000000 in
set_option maxRecDepth 20000 in
theorem each_any {w0 w : World} {b g N M F : Nat} {V : Wd} {P : Nat → Prop} {l : List Hd} {caps : Array Value} {f : Nat → Hd → Wd → Int × Hd × Wd} (hwt : WT w0 w b V (fun j => P j ∨ j = g)) (hPg : ¬ P g) (hA : AllAt w g l) (hl : l.length = N) (hN : N ≤ 12) (hok : Ok M N V) (hM : M ≤ 800000) (hg0 : w0.heap.size ≤ g)
    (hdo : DoIs w0 w b g N P F caps f) (hF : ∀ args w, (callFunc F args).run Tryz.prog w = .ok (.enter F args) w) :
    Calls Tryz.prog 46 #[.slice (some ⟨g, 0, none⟩) N N, .func (.func F) #[] caps] w fun e w' => e = .returned (.tuple #[.int .i64 (if (eachE f l V).cut then 0 else ((eachE f l V).dn : Int)), .int .i64 (if (eachE f l V).cut then 56 else 0)]) ∧ WT w0 w' b (eachE f l V).V (fun j => P j ∨ j = g) ∧ Kpt P w w' ∧ AllAt w' g (eachE f l V).l ∧ Ok (M + 2 * N) N (eachE f l V).V := by
  have hP : ∀ j, P j → j < w.heap.size := fun j hj => hwt.lt j (.inl hj)
  have hgl := hA.lt
  have hw0 : w0.heap.size ≤ w.heap.size := hwt.base.size
  have HWT := hid hwt
  have HA := hid hA
  have HOK := hid hok
  have HDO := hid hdo
  have HLL := hid hl
  have HPG := hid hPg
  have HF := hid hF
  clear hwt hA hok hdo hl hPg hF
  refine (callsIn_wide (n := 6)).1 ?_
  refine callsIn_of_wp_marks Tryz.func46 rfl trivial ?_ rfl
  simp only [Tryz.ntmps46, List.size_toArray, List.length_cons, List.length_nil, Nat.reduceAdd, Nat.reduceSub, Array.replicate_succ, Array.replicate_zero, List.push_toArray, List.append_toArray, List.nil_append, List.cons_append]
  refine wpIn_wide.2 ?_
  go_wp2_with fail
  obtain ⟨fv, hfv⟩ : ∃ fv : Value, fv = .func (.func F) #[] caps := ⟨_, rfl⟩
  have hBk := answering_any (some ⟨g, 0, none⟩) N N ((((w.alloc (.cells #[.func (.func F) #[] caps] 86)).alloc (.cells #[.int .i64 0] 3)).alloc (.cells #[.int .i64 0] 28)).alloc (.cells #[.int .i64 0] 3))
  refine hBk.mono ?_
  rintro e w1 ⟨rfl, rfl⟩
  clear hBk
  go_wp2_with fail
  obtain ⟨W2, hW2⟩ : ∃ W2, W2 = ((((w.alloc (.cells #[.func (.func F) #[] caps] 86)).alloc (.cells #[.int .i64 0] 3)).alloc (.cells #[.int .i64 0] 28)).alloc (.cells #[.int .i64 0] 3)).alloc (.cells #[.slice (some ⟨g, 0, none⟩) N N] 68) := ⟨_, rfl⟩
  have hs2 : W2.heap.size = w.heap.size + 5 := by rw [hW2]; simp
  have hb2 : Below w.heap.size w W2 := by rw [hW2]; exact (((((Below.refl _ _).alloc (Nat.le_refl _) _).alloc (by simp) _).alloc (by simp; omega) _).alloc (by simp; omega) _).alloc (by simp; omega) _
  have hcb : Has W2 (w.heap.size + 4) #[.slice (some ⟨g, 0, none⟩) N N] 68 := by rw [hW2]; exact Has.new _ (w.heap.size + 4) _ _ (by simp)
  have c0 : Has W2 w.heap.size #[fv] 86 := by rw [hW2, hfv]; exact ((((Has.new w _ _ _ rfl).alloc _).alloc _).alloc _).alloc _
  have c1 : Has W2 (w.heap.size + 1) #[.int .i64 0] 3 := by rw [hW2]; exact (((Has.new _ (w.heap.size + 1) _ _ (by simp)).alloc _).alloc _).alloc _
  have c2 : Has W2 (w.heap.size + 2) #[.int .i64 0] 28 := by rw [hW2]; exact ((Has.new _ (w.heap.size + 2) _ _ (by simp)).alloc _).alloc _
  have c3 : Has W2 (w.heap.size + 3) #[.int .i64 0] 3 := by rw [hW2]; exact (Has.new _ (w.heap.size + 3) _ _ (by simp)).alloc _
  try simp only [World.size_alloc]
  rw [← hW2]
  clear hW2
  have hA2 := HA.out.below hb2
  have HE0 : Hid (∀ o1 o2, EI w0 w b g N M P l fv 0 0 (stE f l V (n := N) []) 0 ((W2.alloc o1).alloc o2)) := hid fun o1 o2 => by
    have hb3 : Below W2.heap.size W2 ((W2.alloc o1).alloc o2) := ((Below.refl _ _).alloc (Nat.le_refl _) _).alloc (by simp) _
    have hb4 : Below w.heap.size w ((W2.alloc o1).alloc o2) := hb2.trans (hb3.mono hb2.size)
    refine ⟨(HWT.out.new hb4).sub fun j hj => ?_, (Kpt.below HWT.out hb4).sub fun j hj => .inl hj, hA2.below hb3, rfl, HOK.out, c0.below hb3 c0.lt, c1.below hb3 c1.lt, c2.below hb3 c2.lt, c3.below hb3 c3.lt, Nat.zero_le _⟩
    rcases hj with (hj | hj) | hj
    · exact .inl (.inl hj)
    · exact .inr ⟨hj.1, by simp [hs2]; omega⟩
    · exact .inl (.inr hj)
  refine wpIn_wide (n := 6).1 ?_
  refine rangeAns (N := N) (n := 6) (cb := w.heap.size + 4) (g := g) (fl := l.map (·.ans)) (T := fun j => j ≠ w.heap.size + 4) (by omega) rfl rfl hcb (allAt_flags hA2) (by rw [List.length_map]; exact HLL.out) (by omega) (fun h => h rfl) (fun i hi => by omega) (by omega)
    (fun pre W => (stE f l V pre).cut = false ∧ pre.length ≤ N ∧ EI w0 w b g N M P l fv 0 0 (stE f l V pre) pre.length W)
    (fun pre W => (stE f l V pre).cut = true ∧ pre.length ≤ N ∧ EI w0 w b g N M P l fv 0 56 (stE f l V pre) pre.length W)
    (fun o1 o2 => ⟨rfl, Nat.zero_le _, HE0.out o1 o2⟩)
    (fun pre W k o hk h => ⟨h.1, h.2.1, h.2.2.put o (by omega) hP hw0 hgl⟩)
    (fun pre W k o hk h => ⟨h.1, h.2.1, h.2.2.put o (by omega) hP hw0 hgl⟩)
    (fun x => { tmps := #[.slice (some ⟨g, 0, none⟩) N N, fv, undef, .pointer (some ⟨w.heap.size, 0, none⟩), .pointer (some ⟨w.heap.size + 1, 0, none⟩), .pointer (some ⟨w.heap.size + 2, 0, none⟩), .pointer (some ⟨w.heap.size + 3, 0, none⟩), .int .i64 (x.1 : Int), .pointer (some ⟨g, x.1 * 13, none⟩), .slice (some ⟨g, 0, none⟩) N N, .func (.func 79) #[] #[.pointer (some ⟨w.heap.size + 4, 0, none⟩)], .int .i64 (x.1 : Int), .pointer (some ⟨g, x.1 * 13, none⟩), undef, undef, undef, undef, undef, undef, undef, undef, undef, undef, undef], defers := [] })
    ?assign ?body ?done ?stop
  case assign =>
    rintro ll x W K hK
    have hsa := @Oper.semAt_some
    unfold snV at *
    rw [hfv] at hK
    gi_wp2
    exact hK
  case body =>
    subst hfv
    rintro ll pre x W ⟨hcut, hpl, hE⟩ hlt
    have hsa := @Oper.semAt_some
    obtain ⟨s, hs⟩ : ∃ s, s = stE f l V pre := ⟨_, rfl⟩
    rw [← hs] at hcut hE
    have hsl : s.l.length = N := by
      have := congrArg List.length hE.fl
      rw [List.length_map, List.length_map, HLL.out] at this
      exact this
    obtain ⟨h, hh⟩ : ∃ h, s.l[x.1]? = some h := ⟨_, List.getElem?_eq_getElem (by rw [hsl]; exact x.2)⟩
    have hD := HDO.out (fun j => P j ∨ (w.heap.size ≤ j ∧ j < w.heap.size + 7)) W s.V s.l x.1 h (M + 2 * pre.length) (fun j hj => .inl hj) (fun hj => by
      rcases hj with hj | hj
      · exact HPG.out hj
      · omega) hE.wt hE.kp hE.all hE.ok (by omega) hh x.2
    have hst := stE_snoc f l V pre x
    rw [← hs, oneE_is (f := f) hcut hh] at hst
    obtain ⟨re, hre⟩ : ∃ re, re = (f x.1 h s.V).1 := ⟨_, rfl⟩
    obtain ⟨rh, hrh⟩ : ∃ rh, rh = (f x.1 h s.V).2.1 := ⟨_, rfl⟩
    obtain ⟨rV', hrV⟩ : ∃ rV', rV' = (f x.1 h s.V).2.2 := ⟨_, rfl⟩
    rw [← hre, ← hrh, ← hrV] at hD hst
    have HST := hid hst
    have HEE := hid hE
    have HHH := hid hh
    have d0 : W.cell? ⟨w.heap.size, 0, none⟩ = some (.func (.func F) #[] caps) := hE.b0.cell 0
    have HTW : Hid (∀ W', WT w0 W' b rV' (fun j => (P j ∨ (w.heap.size ≤ j ∧ j < w.heap.size + 7)) ∨ j = g) → Kpt (fun j => P j ∨ (w.heap.size ≤ j ∧ j < w.heap.size + 7)) W W' → Two2 W2.heap.size W W') := hid fun W' h1 h2 => ⟨h2.2 _ (.inr (by omega)), h2.2 _ (.inr (by omega))⟩
    have HRL : Hid (∀ W' r1 r2 s' k, EI w0 w b g N M P l (.func (.func F) #[] caps) r1 r2 s' k W' → W'.heap[w.heap.size + 4]? = W.heap[w.heap.size + 4]? → W.heap.size ≤ W'.heap.size → Rel (fun j => j ≠ w.heap.size + 4) g W W') := hid fun W' r1 r2 s' k h1 h2 h3 => by
      refine ⟨⟨h1.wt.base.os.trans HEE.out.wt.base.os.symm, h1.wt.base.tape.trans HEE.out.wt.base.tape.symm, h1.wt.base.output.trans HEE.out.wt.base.output.symm, h3, fun k' hl' hn => ?_⟩, fun fl hf => ⟨s'.l, h1.all, ?_⟩⟩
      · have : k' = w.heap.size + 4 := Classical.byContradiction fun hc => hn hc
        rw [this]
        exact h2
      · rw [h1.fl, ← HEE.out.fl]
        exact flags_one HEE.out.all hf
    clear hE hh hst hs hre hrh hrV hcut
    unfold er at hD
    have hF' := HF.out
    gi_wp2_with fail
    refine ⟨trivial, (CallsIn.inRound ll (callsIn_wide.2 hD)).mono ?_⟩
    rintro e W' ⟨rfl, hw', hk', hA', ho', ha'⟩
    have hE1 : ∀ c, EI w0 w b g N M P l (.func (.func F) #[] caps) 0 0 ⟨s.l.set x.1 rh, s.dn, rV', c⟩ (pre.length + 1) W' := fun c => HEE.out.did HHH.out ha' hw' hk' hA' ho'
    have HE1 := hid hE1
    have HT2 := hid (HTW.out W' hw' hk')
    have HSZ : Hid (W.heap.size ≤ W'.heap.size ∧ W'.heap[w.heap.size + 4]? = W.heap[w.heap.size + 4]?) := hid ⟨hk'.1, hk'.2 _ (.inr (by omega))⟩
    have y1 : W'.cell? ⟨w.heap.size + 1, 0, none⟩ = some (.int .i64 0) := (hE1 true).b1.cell 0
    have y2 : W'.cell? ⟨w.heap.size + 2, 0, none⟩ = some (.int .i64 0) := (hE1 true).b2.cell 0
    have y3 : W'.cell? ⟨w.heap.size + 3, 0, none⟩ = some (.int .i64 (s.dn : Int)) := (hE1 true).b3.cell 0
    have z1 := (hE1 true).b1.frozen 0
    have z2 := (hE1 true).b2.frozen 0
    have z3 := (hE1 true).b3.frozen 0
    clear hE1 hw' hk' hA' ho' ha' hD d0
    have HPL : Hid (pre.length + 1 = (pre ++ [x]).length) := hid (by rw [List.length_append]; rfl)
    by_cases e0 : re = 0
    · have HS2 : Hid (stE f l V (pre ++ [x]) = ⟨s.l.set x.1 rh, s.dn + 1, rV', false⟩) := hid (by rw [HST.out, if_pos e0, e0]; rfl)
      subst e0
      have hdk := HEE.out.dk
      have wk : IntKind.i64.wrap ((s.dn : Int) + 1) = (s.dn : Int) + 1 := wrapN (a := s.dn) (b := 1) (by omega)
      obtain ⟨W3, hW3⟩ : ∃ W3, W3 = W'.setCell ⟨w.heap.size + 3, 0, none⟩ (.int .i64 ((s.dn : Int) + 1)) := ⟨_, rfl⟩
      have ho3 : Only (fun j => j = w.heap.size + 3) W' W3 := by rw [hW3]; exact Only.set (p := ⟨w.heap.size + 3, 0, none⟩) (Only.refl (fun j => j = w.heap.size + 3) W') (.inl rfl) _
      have hE := HE1.out false
      have HE3 : Hid (EI w0 w b g N M P l (.func (.func F) #[] caps) 0 0 ⟨s.l.set x.1 rh, s.dn + 1, rV', false⟩ (pre.length + 1) W3) := hid (hE.box ho3 (by omega) ⟨rfl, rfl⟩ (ho3.has hE.b1 (by omega)) (ho3.has hE.b2 (by omega)) (by rw [hW3]; exact hE.b3.set 0 _) (by show s.dn + 1 ≤ pre.length + 1; omega) hP hw0 hgl)
      have HT3 : Hid (Two2 W2.heap.size W W3) := hid ⟨(ho3.block _ (by have := hE.wt.lt (w.heap.size + 5) (.inl (.inr (by omega))); omega) (by omega)).trans HT2.out.d, (ho3.block _ (by have := hE.wt.lt (w.heap.size + 6) (.inl (.inr (by omega))); omega) (by omega)).trans HT2.out.l⟩
      have HR3 := hid (HRL.out W3 0 0 _ _ HE3.out ((ho3.block _ (by have := hE.wt.lt (w.heap.size + 4) (.inl (.inr (by omega))); omega) (by omega)).trans HSZ.out.2) (Nat.le_trans HSZ.out.1 ho3.size))
      clear hE ho3 hdk
      gi_wp2_with fail
      rw [← hW3]
      exact ⟨HT3.out, HR3.out, by rw [HS2.out], by rw [← HPL.out]; omega, by rw [HS2.out, ← HPL.out]; exact HE3.out⟩
    · have q0 : (re == 0) = false := by simpa using e0
      by_cases e56 : re = 56
      · have HS2 : Hid (stE f l V (pre ++ [x]) = ⟨s.l.set x.1 rh, s.dn, rV', true⟩) := hid (by rw [HST.out, if_neg e0, e56]; rfl)
        subst e56
        obtain ⟨W3, hW3⟩ : ∃ W3, W3 = W'.setCell ⟨w.heap.size + 1, 0, none⟩ (.int .i64 0) := ⟨_, rfl⟩
        have ho3 : Only (fun j => j = w.heap.size + 1) W' W3 := by rw [hW3]; exact Only.set (p := ⟨w.heap.size + 1, 0, none⟩) (Only.refl (fun j => j = w.heap.size + 1) W') (.inl rfl) _
        have hE := HE1.out true
        have hE3 : EI w0 w b g N M P l (.func (.func F) #[] caps) 0 0 ⟨s.l.set x.1 rh, s.dn, rV', true⟩ (pre.length + 1) W3 := hE.box ho3 (by omega) ⟨rfl, rfl⟩ (by rw [hW3]; exact hE.b1.set 0 _) (ho3.has hE.b2 (by omega)) (ho3.has hE.b3 (by omega)) hE.dk hP hw0 hgl
        obtain ⟨W4, hW4⟩ : ∃ W4, W4 = W3.setCell ⟨w.heap.size + 2, 0, none⟩ (.int .i64 56) := ⟨_, rfl⟩
        have ho4 : Only (fun j => j = w.heap.size + 2) W3 W4 := by rw [hW4]; exact Only.set (p := ⟨w.heap.size + 2, 0, none⟩) (Only.refl (fun j => j = w.heap.size + 2) W3) (.inl rfl) _
        have HE4 : Hid (EI w0 w b g N M P l (.func (.func F) #[] caps) 0 56 ⟨s.l.set x.1 rh, s.dn, rV', true⟩ (pre.length + 1) W4) := hid (hE3.box ho4 (by omega) ⟨rfl, rfl⟩ (ho4.has hE3.b1 (by omega)) (by rw [hW4]; exact hE3.b2.set 0 _) (ho4.has hE3.b3 (by omega)) hE3.dk hP hw0 hgl)
        have HT4 : Hid (Two2 W2.heap.size W W4) := hid ⟨((ho4.block _ (by have := hE3.wt.lt (w.heap.size + 5) (.inl (.inr (by omega))); omega) (by omega)).trans (ho3.block _ (by have := hE.wt.lt (w.heap.size + 5) (.inl (.inr (by omega))); omega) (by omega))).trans HT2.out.d, ((ho4.block _ (by have := hE3.wt.lt (w.heap.size + 6) (.inl (.inr (by omega))); omega) (by omega)).trans (ho3.block _ (by have := hE.wt.lt (w.heap.size + 6) (.inl (.inr (by omega))); omega) (by omega))).trans HT2.out.l⟩
        have x2 : W3.cell? ⟨w.heap.size + 2, 0, none⟩ = some (.int .i64 0) := hE3.b2.cell 0
        have x3 := hE3.b2.frozen 0
        rw [hW3] at hW4 x2 x3
        clear hE ho3 hE3 ho4 hW3 e0
        gi_wp2_with fail
        rw [← hW4]
        exact ⟨HT4.out, by rw [HS2.out], by rw [← HPL.out]; omega, by rw [HS2.out, ← HPL.out]; exact HE4.out⟩
      · have q1 : (re == 56) = false := by simpa using e56
        have HS2 : Hid (stE f l V (pre ++ [x]) = ⟨s.l.set x.1 rh, s.dn, rV', false⟩) := hid (by rw [HST.out, if_neg e0, decide_eq_false e56])
        have HR3 := hid (HRL.out W' 0 0 _ _ (HE1.out false) HSZ.out.2 HSZ.out.1)
        clear e0 e56
        gi_wp2_with fail
        exact ⟨HT2.out, HR3.out, by rw [HS2.out], by rw [← HPL.out]; omega, by rw [HS2.out, ← HPL.out]; exact HE1.out false⟩
  case done =>
    rintro ys W hys ⟨hcut, hyl, hE⟩ hK
    have hst : stE f l V ys = eachE f l V := by
      unfold stE eachE
      rw [hys, idx_idxF]
    rw [hst] at hcut hE
    have y1 : W.cell? ⟨w.heap.size + 1, 0, none⟩ = some (.int .i64 0) := hE.b1.cell 0
    have y2 : W.cell? ⟨w.heap.size + 2, 0, none⟩ = some (.int .i64 0) := hE.b2.cell 0
    have y3 : W.cell? ⟨w.heap.size + 3, 0, none⟩ = some (.int .i64 ((eachE f l V).dn : Int)) := hE.b3.cell 0
    have z1 := hE.b1.frozen 0
    have z2 := hE.b2.frozen 0
    obtain ⟨W3, hW3⟩ : ∃ W3, W3 = W.setCell ⟨w.heap.size + 1, 0, none⟩ (.int .i64 ((eachE f l V).dn : Int)) := ⟨_, rfl⟩
    have ho3 : Only (fun j => j = w.heap.size + 1) W W3 := by rw [hW3]; exact Only.set (p := ⟨w.heap.size + 1, 0, none⟩) (Only.refl (fun j => j = w.heap.size + 1) W) (.inl rfl) _
    have hE3 : EI w0 w b g N M P l fv ((eachE f l V).dn : Int) 0 (eachE f l V) ys.length W3 := hE.box ho3 (by omega) ⟨rfl, rfl⟩ (by rw [hW3]; exact hE.b1.set 0 _) (ho3.has hE.b2 (by omega)) (ho3.has hE.b3 (by omega)) hE.dk hP hw0 hgl
    obtain ⟨W4, hW4⟩ : ∃ W4, W4 = W3.setCell ⟨w.heap.size + 2, 0, none⟩ (.int .i64 0) := ⟨_, rfl⟩
    have ho4 : Only (fun j => j = w.heap.size + 2) W3 W4 := by rw [hW4]; exact Only.set (p := ⟨w.heap.size + 2, 0, none⟩) (Only.refl (fun j => j = w.heap.size + 2) W3) (.inl rfl) _
    have hE4 : EI w0 w b g N M P l fv ((eachE f l V).dn : Int) 0 (eachE f l V) ys.length W4 := hE3.box ho4 (by omega) ⟨rfl, rfl⟩ (ho4.has hE3.b1 (by omega)) (by rw [hW4]; exact hE3.b2.set 0 _) (ho4.has hE3.b3 (by omega)) hE3.dk hP hw0 hgl
    have K4 : W4.heap[w.heap.size + 5]? = some (.deferred (some [])) := by
      rw [hs2] at hK
      exact ((ho4.block _ (by have := hE3.wt.lt (w.heap.size + 5) (.inl (.inr (by omega))); omega) (by omega)).trans (ho3.block _ (by have := hE.wt.lt (w.heap.size + 5) (.inl (.inr (by omega))); omega) (by omega))).trans hK
    have x2 : W3.cell? ⟨w.heap.size + 2, 0, none⟩ = some (.int .i64 0) := hE3.b2.cell 0
    have x3 := hE3.b2.frozen 0
    have HF5 := hid (hE4.put (i := w.heap.size + 5) (.deferred none) (by omega) hP hw0 hgl)
    have HK4 := hid K4
    have HC := hid hcut
    have HYL := hid hyl
    rw [hW3] at hW4 x2 x3
    clear hE hE3 hE4 ho3 ho4 hW3 K4 hK hst hys
    go_wp2_with fail
    have hW4' : W4 = (W.setCell ⟨w.heap.size + 1, 0, none⟩ (.int .i64 ((eachE f l V).dn : Int))).setCell ⟨w.heap.size + 1 + 1, 0, none⟩ (.int .i64 0) := hW4
    all_goals
      first | rw [← hW4] | rw [← hW4']
      refine ⟨by simp, .inl ⟨_, _, rfl, run_takeDeferred HK4.out, ?_⟩⟩
      refine ⟨_, res2 (p := 4) (u := 5) (b := w.heap.size + 1) (c := w.heap.size + 2) (x := ((eachE f l V).dn : Int)) (y := 0) rfl ?_ ?_ (HF5.out.b1.cell 0) (HF5.out.b2.cell 0), ?_, HF5.out.wt.sub (fun j hj => ?_), HF5.out.kp, HF5.out.all, HF5.out.ok.more (by have := HYL.out; omega)⟩
      · rfl
      · rfl
      · first | rfl | (rw [HC.out]; rfl)
      · rcases hj with hj | hj
        · exact .inl (.inl hj)
        · exact .inr hj
  case stop =>
    rintro pre W hpre ⟨hcut, hyl, hE⟩ hK
    have hst : stE f l V pre = eachE f l V := by
      obtain ⟨rest, hrest⟩ := hpre
      unfold eachE
      rw [idx_idxF, ← hrest, List.foldl_append]
      exact (foldl_cut f rest (stE f l V pre) hcut).symm
    rw [hst] at hcut hE
    have HF5 := hid (hE.put (i := w.heap.size + 5) (.deferred none) (by omega) hP hw0 hgl)
    rw [hs2] at hK
    have HK4 := hid hK
    have HC := hid hcut
    have HYL := hid hyl
    clear hE hK hst hpre
    refine wpIn_wide (n := 6).2 ?_
    go_wp2_with fail
    refine ⟨by simp, .inl ⟨_, _, rfl, run_takeDeferred HK4.out, ?_⟩⟩
    refine ⟨_, res2 (p := 4) (u := 5) (b := w.heap.size + 1) (c := w.heap.size + 2) (x := 0) (y := 56) rfl ?_ ?_ (HF5.out.b1.cell 0) (HF5.out.b2.cell 0), ?_, HF5.out.wt.sub (fun j hj => ?_), HF5.out.kp, HF5.out.all, HF5.out.ok.more (by have := HYL.out; omega)⟩
    · rfl
    · rfl
    · first | rfl | (rw [HC.out]; rfl)
    · rcases hj with hj | hj
      · exact .inl (.inl hj)
      · exact .inr hj
end Go.Proofs.YtmpgfpmkmgebdaaGreatDoor
