/- The contract of packed: the packs into which chunks go. -/
import Derived.Test.YtjhjolnflkekoaaDoorShut
namespace Go.Proofs.YtjhjolnflkekoaaDoor
open Go.RowKit Go.Maps
open Pk
set_option linter.unusedVariables false
/-- what is open and what is closed while chunks are gathered -/
structure GI (w0 : World) (bp bo bz : Nat) (c : List ByteArray) (k : Nat) (W : World) (op : List ByteArray) (L : List (List ByteArray × Nat × Nat)) (vo vp : Value) (B2 : Nat) : Prop where
  hp : Has W bp #[vp] 25
  ho : Has W bo #[vo] 22
  hz : Has W bz #[.int .i64 (tot op : Int)] 3
  row : W.ownsRow B2 9 1 vo op.length (op.map Value.string)
  lo2 : w0.heap.size ≤ B2
  hi2 : B2 ≤ W.heap.size
  old : ∀ x ∈ L, x.2.1 < B2
  pks : Pks W w0.heap.size vp L
  come : L.map (·.1) ++ Gt.go op (c.drop k) = Gt.go [] c
  below : Below w0.heap.size w0 W
  most : L.length + op.length ≤ k
  opt : tot op ≤ tot (c.take k)
/-- packs stand while another row grows -/
theorem Pks.grown {w w' : World} {lo lo2 : Nat} {v v2 : Value} {n : Nat} {xs : List Value} {L : List (List ByteArray × Nat × Nat)} (h : Pks w lo v L) (hr : w.ownsRow lo2 9 1 v2 n xs) (hg : w.grownBy w' v2.ownBlock) (ha : ∀ x ∈ L, v2.ownBlock ≠ some x.2.1) : Pks w' lo v L := by
  refine ⟨h.row.kept hg ?_, fun x hx => ?_, h.apart⟩
  · rcases h.row.2 with ⟨rfl, _⟩ | ⟨g, cap, cur, rfl, _, hh, _⟩
    · exact .inl rfl
    · right
      have : Has w g cur 39 := hh
      exact fun e => own_has hr this (by decide) e.symm
  · have := h.each x hx
    exact ⟨this.la, this.lb, this.ha.grown hg (ha x hx), this.hb.grown hg (own_has hr this.hb (by decide))⟩
theorem drop_next {c : List ByteArray} {k : Nat} (h : k < c.length) : c.drop k = c.getD k ⟨#[]⟩ :: c.drop (k + 1) := by
  rw [List.drop_eq_getElem_cons h, List.getD_eq_getElem?_getD, List.getElem?_eq_getElem h]; rfl
theorem map_len {L L' : List (List ByteArray × Nat × Nat)} {op : List ByteArray} (h : L'.map (·.1) = L.map (·.1) ++ (if op = [] then [] else [op])) : L'.length ≤ L.length + 1 := by
  have := congrArg List.length h
  rw [List.length_map, List.length_append, List.length_map] at this
  split at this <;> simp at this <;> omega
/-- a pack that is closed may be one -/
theorem GI.may {w0 : World} {bp bo bz : Nat} {c : List ByteArray} {k : Nat} {W : World} {op : List ByteArray} {L : List (List ByteArray × Nat × Nat)} {vo vp : Value} {B2 : Nat} (h : GI w0 bp bo bz c k W op L vo vp B2) (hM : ∀ q ∈ Gt.go [] c, May (q.map bs))
    (hx : c.length ≤ k ∨ (k < c.length ∧ 4096 < tot op + (c.getD k ⟨#[]⟩).size)) (he : op ≠ []) : May (op.map bs) := by
  refine hM op ?_
  rw [← h.come]
  refine List.mem_append_right _ ?_
  rcases hx with hx | ⟨hx, h2⟩
  · rw [List.drop_eq_nil_of_le hx, Gt.go, if_neg he]; simp
  · rw [drop_next hx, Gt.go_shut ⟨he, h2⟩]; simp
theorem GI.shut {w0 : World} {bp bo bz : Nat} {c : List ByteArray} {k : Nat} {W W' : World} {op : List ByteArray} {L L' : List (List ByteArray × Nat × Nat)} {vo vp vp' : Value} {B2 : Nat} (h : GI w0 bp bo bz c k W op L vo vp B2)
    (hk : k < c.length) (h2 : 4096 < tot op + (c.getD k ⟨#[]⟩).size) (g1 : Has W' bo #[.slice none 0 0] 22) (g2 : Has W' bp #[vp'] 25) (g3 : Has W' bz #[.int .i64 0] 3) (g4 : Pks W' w0.heap.size vp' L') (g5 : L'.map (·.1) = L.map (·.1) ++ (if op = [] then [] else [op])) (g6 : Below w0.heap.size W W') :
    GI w0 bp bo bz c k W' [] L' (.slice none 0 0) vp' W'.heap.size := by
  refine ⟨g2, g1, g3, World.ownsRow_nil _ _ _ _, Nat.le_trans h.below.size g6.size, Nat.le_refl _, fun x hx => (g4.lts x hx).1, g4, ?_, h.below.trans g6, ?_, by rw [tot_nil]; omega⟩
  · rw [← h.come, g5, drop_next hk]
    by_cases he : op = []
    · subst he; simp
    · rw [if_neg he, Gt.go_shut ⟨he, h2⟩, Gt.go_open (op := []) (by simp)]; simp
  · have hm := h.most
    have := congrArg List.length g5
    rw [List.length_map, List.length_append, List.length_map] at this
    by_cases he : op = []
    · subst he; simp at this ⊢; omega
    · have : 0 < op.length := List.length_pos_iff.2 he
      rw [if_neg he] at *; simp at *; omega
theorem GI.step {w0 : World} {bp bo bz : Nat} {c : List ByteArray} {k : Nat} {W W2 : World} {op : List ByteArray} {L : List (List ByteArray × Nat × Nat)} {vo vp : Value} {B2 : Nat} (h : GI w0 bp bo bz c k W op L vo vp B2) {o : Obj} (hg : (W.alloc o).grownBy W2 vo.ownBlock) (u : Value) :
    W2.cell? ⟨bo, 0, none⟩ = some vo ∧ W2.frozen? ⟨bo, 0, none⟩ = false ∧ (W2.setCell ⟨bo, 0, none⟩ u).cell? ⟨bz, 0, none⟩ = some (.int .i64 (tot op : Int)) ∧ (W2.setCell ⟨bo, 0, none⟩ u).frozen? ⟨bz, 0, none⟩ = false := by
  have hrw := h.row.alloc o
  have o1 := (h.ho.alloc o).grown hg (own_has hrw (h.ho.alloc _) (by decide))
  have z1 := (h.hz.alloc o).grown hg (own_has hrw (h.hz.alloc _) (by decide))
  have z2 := z1.other ⟨bo, 0, none⟩ u (has_ne z1 o1 (by decide))
  have e1 := o1.cell 0
  have e2 := z2.cell 0
  simp at e1 e2
  exact ⟨e1, o1.frozen 0, e2, z2.frozen 0⟩
/-- a chunk goes in -/
theorem GI.push {w0 : World} {bp bo bz : Nat} {c : List ByteArray} {k : Nat} {W W2 : World} {op : List ByteArray} {L : List (List ByteArray × Nat × Nat)} {vo vo2 vp : Value} {B2 : Nat} (h : GI w0 bp bo bz c k W op L vo vp B2)
    (hk : k < c.length) (h2 : op = [] ∨ tot op + (c.getD k ⟨#[]⟩).size ≤ 4096) (hbo : w0.heap.size ≤ bo) (hbz : w0.heap.size ≤ bz)
    (hrow : W2.ownsRow B2 9 1 vo2 (op.length + 1) (op.map Value.string ++ [.string (c.getD k ⟨#[]⟩)])) (hg : (W.alloc (.cells #[.string (c.getD k ⟨#[]⟩)] 9)).grownBy W2 vo.ownBlock) :
    GI w0 bp bo bz c (k + 1) ((W2.setCell ⟨bo, 0, none⟩ vo2).setCell ⟨bz, 0, none⟩ (.int .i64 ((tot op + (c.getD k ⟨#[]⟩).size : Nat) : Int))) (op ++ [c.getD k ⟨#[]⟩]) L vo2 vp B2 := by
  have hal : Below W.heap.size W (W.alloc (.cells #[.string (c.getD k ⟨#[]⟩)] 9)) := (Below.refl _ _).alloc (Nat.le_refl _) _
  have hrw := h.row.alloc (.cells #[.string (c.getD k ⟨#[]⟩)] 9)
  have p1 := (h.hp.alloc (.cells #[.string (c.getD k ⟨#[]⟩)] 9)).grown hg (own_has hrw (h.hp.alloc _) (by decide))
  have o1 := (h.ho.alloc (.cells #[.string (c.getD k ⟨#[]⟩)] 9)).grown hg (own_has hrw (h.ho.alloc _) (by decide))
  have z1 := (h.hz.alloc (.cells #[.string (c.getD k ⟨#[]⟩)] 9)).grown hg (own_has hrw (h.hz.alloc _) (by decide))
  have k1 : Pks W2 w0.heap.size vp L := by
    have hk0 := h.pks.below hal (Nat.le_refl _)
    exact hk0.grown hrw hg fun x hx e => by
      have := (hrw.lt _ e).1
      have := h.old x hx
      omega
  have p2 := p1.other ⟨bo, 0, none⟩ vo2 (has_ne p1 o1 (by decide))
  have z2 := z1.other ⟨bo, 0, none⟩ vo2 (has_ne z1 o1 (by decide))
  have o2 := o1.set 0 vo2
  have r2 := own_set (o := 0) hrow o1 (by decide) vo2
  have k2 := k1.set (o := 0) o1 (by decide) (by decide) (by decide) vo2
  have e : tot op + (c.getD k ⟨#[]⟩).size = tot (op ++ [c.getD k ⟨#[]⟩]) := by rw [tot_snoc]
  rw [e]
  have hb : Below w0.heap.size w0 W2 := (h.below.alloc h.below.size _).grown hg (by have := h.below.size; simp; omega) (fun j hj => Nat.le_trans h.lo2 (h.row.lt j hj).1)
  refine ⟨p2.other ⟨bz, 0, none⟩ _ (has_ne p2 z2 (by decide)), o2.other ⟨bz, 0, none⟩ _ (has_ne o2 z2 (by decide)), z2.set 0 _, ?_, h.lo2, ?_, h.old, k2.set (o := 0) z2 (by decide) (by decide) (by decide) _, ?_, (hb.setCell (p := ⟨bo, 0, none⟩) hbo _).setCell (p := ⟨bz, 0, none⟩) hbz _, ?_, ?_⟩
  · have := own_set (o := 0) r2 z2 (by decide) (.int .i64 ((tot (op ++ [c.getD k ⟨#[]⟩]) : Nat) : Int))
    rw [List.length_append, List.map_append]; exact this
  · have := hg.size; have := h.hi2; simp [World.setCell] at *; omega
  · rw [← h.come, drop_next hk, Gt.go_open (fun h3 => by rcases h2 with h2 | h2; exact h3.1 h2; omega)]
  · rw [List.length_append]; have := h.most; simp; omega
  · rw [tot_snoc, tot_take c k hk]; have := h.opt; omega
set_option maxRecDepth 20000 in
set_option maxHeartbeats 4000000 in
theorem packed_any (c : List ByteArray) (A : Option Addr) (cap : Nat) (w : World) (ht : S.Tabs w) (h : Tx w A c) (hc : c.length ≤ 100000) (hct : tot c ≤ 100000000) (hM : ∀ q ∈ Gt.go [] c, May (q.map bs)) :
    Calls Tryd.prog 18 #[.slice A c.length cap] w fun e w' => ∃ v L, e = .returned v ∧ Pks w' w.heap.size v L ∧ L.map (·.1) = Gt.go [] c ∧ Below w.heap.size w w' := by
  obtain ⟨i0, hi, hz0, hz1, hz2⟩ := info_parts (show (Tryd.prog.info? 9).map (fun i => (i.zero, i.size, i.bytes)) = some (some (.string ⟨#[]⟩), 1, 16) by kernel_rfl)
  obtain ⟨n, hn⟩ : ∃ n, n = c.length := ⟨_, rfl⟩
  have HN := hid hn
  have HL := hid h
  have HT := hid ht
  have HM := hid hM
  have HCT := hid hct
  have hg0 : GI w w.heap.size (w.heap.size + 1) (w.heap.size + 1 + 1) c 0 (((w.alloc (Obj.cells #[Value.slice none 0 0] 25)).alloc (Obj.cells #[Value.slice none 0 0] 22)).alloc (Obj.cells #[Value.int IntKind.i64 0] 3)) [] [] (.slice none 0 0) (.slice none 0 0) w.heap.size :=
    ⟨((Has.new w w.heap.size _ 25 rfl).alloc _).alloc _, (Has.new _ (w.heap.size + 1) _ 22 (by simp)).alloc _, Has.new _ _ _ 3 (by simp), World.ownsRow_nil _ _ _ _, Nat.le_refl _, by simp; omega, by simp, Pks.nil _ _, by simp, (((Below.refl _ _).alloc (Nat.le_refl _) _).alloc (by simp) _).alloc (by simp; omega) _, Nat.le_refl _, Nat.zero_le _⟩
  have HG0 := hid hg0
  rw [← hn] at hc ⊢
  clear hn h ht hM hg0 hct
  go_enter Tryd.func18, Tryd.ntmps18
  go_wp2_with fail
  have q1 : Hid (w.heap.size ≤ w.heap.size + 1) := hid (by omega)
  have q2 : Hid (w.heap.size ≤ w.heap.size + 1 + 1) := hid (by omega)
  generalize w.heap.size + 1 + 1 = bz at *
  generalize w.heap.size + 1 = bo at *
  generalize ((w.alloc (Obj.cells #[Value.slice none 0 0] 25)).alloc (Obj.cells #[Value.slice none 0 0] 22)).alloc (Obj.cells #[Value.int IntKind.i64 0] 3) = w1 at *
  go_loopw [8, 12] (fun _ v12 wr => ∃ (k : Nat) (op : List ByteArray) (L : List (List ByteArray × Nat × Nat)) (vo vp : Value) (B2 : Nat), k ≤ n ∧ v12 = .int .i64 (k : Int) ∧ Hid (GI w w.heap.size bo bz c k wr op L vo vp B2)) (fun _ v12 _ => n - (intOf v12).toNat)
  case atStart => exact ⟨0, [], [], _, _, _, Nat.zero_le _, rfl, HG0⟩
  case round =>
    clear HG0
    obtain ⟨k, op, L, vo, vp, B2, hk, rfl, HG⟩ := hrel
    obtain ⟨A3, cap3, ev3, hl3, hx3⟩ := own_tx HG.out.row
    clear hl3
    obtain ⟨A4, cap4, ev4⟩ := HG.out.pks.slice
    subst ev3 ev4
    have c0 := HG.out.hp.cell 0
    have c1 := HG.out.ho.cell 0
    have c2 := HG.out.hz.cell 0
    simp at c0 c1 c2
    have f0 := HG.out.hp.frozen 0
    have f1 := HG.out.ho.frozen 0
    have f2 := HG.out.hz.frozen 0
    have hopl := HG.out.most
    have hopt := HG.out.opt
    by_cases hlt : k < n
    · have hkc : k < c.length := by rw [← HN.out]; exact hlt
      obtain ⟨gc, oc, rfl, hgc, cc⟩ := tx_cell HL.out HG.out.below hkc
      have hsz : (c.getD k ⟨#[]⟩).size ≤ 100000000 := by have := tot_le (getD_mem hkc); have := HCT.out; omega
      have hto : tot op ≤ 100000000 := by have := tot_take_le c k; have := HCT.out; omega
      have HP : Hid (∀ (W W2 : World) (op : List ByteArray) (L : List (List ByteArray × Nat × Nat)) (vo vo2 vp : Value) (B2 : Nat), GI w w.heap.size bo bz c k W op L vo vp B2 → (op = [] ∨ tot op + (c.getD k ⟨#[]⟩).size ≤ 4096) → W2.ownsRow B2 9 1 vo2 (op.length + 1) (op.map Value.string ++ [.string (c.getD k ⟨#[]⟩)]) → (W.alloc (.cells #[.string (c.getD k ⟨#[]⟩)] 9)).grownBy W2 vo.ownBlock → GI w w.heap.size bo bz c (k + 1) ((W2.setCell ⟨bo, 0, none⟩ vo2).setCell ⟨bz, 0, none⟩ (.int .i64 ((tot op + (c.getD k ⟨#[]⟩).size : Nat) : Int))) (op ++ [c.getD k ⟨#[]⟩]) L vo2 vp B2) :=
        hid fun W W2 op L vo vo2 vp B2 hG h2 hr hg => hG.push hkc h2 q1.out q2.out hr hg
      have HMay := hid (fun h2 => HG.out.may HM.out (.inr ⟨hkc, h2⟩))
      have HSh : Hid (∀ (h2 : 4096 < tot op + (c.getD k ⟨#[]⟩).size) (W' : World) (L' : List (List ByteArray × Nat × Nat)) (vp' : Value), _ → _ → _ → _ → _ → _ → GI w w.heap.size bo bz c k W' [] L' (.slice none 0 0) vp' W'.heap.size) := hid fun h2 W' L' vp' g1 g2 g3 g4 g5 g6 => HG.out.shut hkc h2 g1 g2 g3 g4 g5 g6
      generalize c.getD k ⟨#[]⟩ = s at *
      have i1 : (k : Int) < (n : Int) := by omega
      have wk : IntKind.i64.wrap ((k : Int) + 1) = ((k + 1 : Nat) : Int) := by rw [IntKind.wrap_i64]; omega
      have wt : IntKind.i64.wrap ((tot op : Int) + (s.size : Int)) = (tot op : Int) + (s.size : Int) := by rw [IntKind.wrap_i64]; omega
      have hx1 : k < 1000000 := by omega
      have ws : IntKind.i64.wrap (s.size : Int) = (s.size : Int) := by rw [IntKind.wrap_i64]; omega
      clear hsz hto hopt
      by_cases hle : tot op + s.size ≤ 4096
      · have dd : decide ((4096 : Int) < (tot op : Int) + (s.size : Int)) = false := by simp; omega
        go_wp2_with (at_builtin; refine wpList_append_own _ rfl _ _ 22 rfl B2 9 i0 (.string ⟨#[]⟩) 1 16 Tryd.underlying22 hi hz0 hz1 hz2 rfl (by decide) (.slice A3 op.length cap3) op.length _ rfl (HG.out.row.alloc _) ⟨wr.heap.size, 0, none⟩ 1 1 [.string s] rfl rfl (cell_one_new _ _ _) (by simp [Value.oneCell']) (by unfold maxLen; omega) (by omega) (by have := HG.out.hi2; simp; omega) ?_; intro v' w3 hown' hgrow _; obtain ⟨A5, cap5, ev5, hl5, ht5⟩ := own_tx (l := op ++ [s]) (by first | (rw [List.map_append]; exact hown') | exact hown'); have el : (op ++ [s]).length = op.length + 1 := List.length_append; rw [el] at ev5; subst ev5; clear hl5 ht5 el; obtain ⟨e1, r1, e2, r2⟩ := HG.out.step hgrow (.slice A5 (op.length + 1) cap5))
        have HN2 := HP.out _ _ _ _ _ _ _ _ HG.out (.inr hle) hown' hgrow
        rw [Int.natCast_add] at HN2
        have HN2 := hid HN2
        go_roundw
        case rel => exact ⟨k + 1, _, _, _, _, _, by omega, by rfl, HN2⟩
        case measure => first | (simp [intOf]; done) | (simp [intOf]; omega)
      · have dd : decide ((4096 : Int) < (tot op : Int) + (s.size : Int)) = true := by simp; omega
        go_wp2_with fail
        refine (shut_any bo w.heap.size bz w.heap.size op L _ _ _ wr (tabs_below HT.out HG.out.below (Nat.le_refl _)) HG.out.ho HG.out.hp HG.out.hz (own_mono HG.out.row HG.out.lo2) HG.out.pks ⟨q1.out, Nat.le_refl _, q2.out⟩ (fun he => HMay.out (by omega) he) (by omega)).mono ?_
        rintro e w2 ⟨rfl, vp', L', g1, g2, g3, g4, g5, g6⟩
        have HG2 := hid (HSh.out (by omega) w2 L' vp' g1 g2 g3 g4 g5 g6)
        have hm2 := HG2.out.most
        have c1' := g1.cell 0
        have c2' := g3.cell 0
        simp at c1' c2'
        clear g1 g2 g3 g4 g5 g6 HSh HMay
        go_wp2_with (at_builtin; go_loud (refine wpList_append_own _ rfl _ _ 22 rfl w2.heap.size 9 i0 (.string ⟨#[]⟩) 1 16 Tryd.underlying22 hi hz0 hz1 hz2 rfl (by decide) (.slice none 0 0) ([] : List ByteArray).length _ rfl (HG2.out.row.alloc _) ⟨w2.heap.size, 0, none⟩ 1 1 [.string s] rfl rfl (cell_one_new _ _ _) (by simp [Value.oneCell']) (by unfold maxLen; omega) (by omega) (by simp) ?_; intro v' w3 hown' hgrow _; obtain ⟨A5, cap5, ev5, hl5, ht5⟩ := own_tx (l := ([] : List ByteArray) ++ [s]) (by first | (rw [List.map_append]; exact hown') | exact hown'); have el : (([] : List ByteArray) ++ [s]).length = 1 := rfl; rw [el] at ev5; subst ev5; clear hl5 ht5 el; obtain ⟨e1, r1, e2, r2⟩ := HG2.out.step hgrow (.slice A5 1 cap5); rw [tot_nil, Int.natCast_zero] at e2))
        have HN2 := HP.out _ _ _ _ _ _ _ _ HG2.out (.inl rfl) hown' hgrow
        rw [tot_nil, Nat.zero_add] at HN2
        have HN2 := hid HN2
        go_roundw
        case rel => exact ⟨k + 1, _, _, _, _, _, by omega, by rfl, HN2⟩
        case measure => first | (simp [intOf]; done) | (simp [intOf]; omega)
    · obtain rfl : k = n := by omega
      have i1 : ¬ ((k : Int) < (k : Int)) := by omega
      have HMay := hid (HG.out.may HM.out (.inl (by rw [← HN.out]; exact Nat.le_refl _)))
      go_wp2_with fail
      refine (shut_any bo w.heap.size bz w.heap.size op L _ _ _ wr (tabs_below HT.out HG.out.below (Nat.le_refl _)) HG.out.ho HG.out.hp HG.out.hz (own_mono HG.out.row HG.out.lo2) HG.out.pks ⟨q1.out, Nat.le_refl _, q2.out⟩ HMay.out (by omega)).mono ?_
      rintro e w2 ⟨rfl, vp', L', g1, g2, g3, g4, g5, g6⟩
      obtain ⟨A6, cap6, ev6⟩ := g4.slice
      subst ev6
      have c4 := g2.cell 0
      simp at c4
      have HF : Hid (L'.map (·.1) = Gt.go [] c) := hid (by
        rw [g5, ← HG.out.come, List.drop_eq_nil_of_le (by rw [← HN.out]; exact Nat.le_refl _)]
        by_cases he : op = []
        · subst he; simp [Gt.go]
        · rw [if_neg he, Gt.go, if_neg he])
      have HB := hid (HG.out.below.trans g6)
      have HP := hid g4
      clear g1 g2 g3 g4 g5 g6 HMay HG
      go_wp2_with fail
      go_ret
      exact ⟨_, L', rfl, HP.out, HF.out, HB.out⟩
end Go.Proofs.YtjhjolnflkekoaaDoor
