/- The contract of the document's Gather. -/
import Derived.Test.YtjhjolnflkekoaaDoorBackI
import Derived.Test.YtjhjolnflkekoaaDoorOnceNum
import Derived.BigQuiet
namespace Go.Proofs.YtjhjolnflkekoaaDoor
open Go.RowKit Go.Maps
open Pk
set_option linter.unusedVariables false
/-- what is open and what is closed behind the first i -/
structure RI (w0 : World) (c : List ByteArray) (i : Nat) (W : World) (op : List ByteArray) (M : List (List ByteArray × Value × Value)) (vo vp : Value) (B2 : Nat) : Prop where
  row : W.ownsRow B2 9 1 vo op.length (op.map Value.string)
  lo2 : w0.heap.size ≤ B2
  hi2 : B2 ≤ W.heap.size
  old : ∀ x ∈ M, ∀ j, x.2.1.ownBlock = some j → j < B2
  pks : Rks W w0.heap.size vp M
  come : M.map (·.1) ++ Gt.go op ((Gt.firsts [] c).drop (Gt.firsts [] (c.take i)).length) = Gt.packs c
  below : Below w0.heap.size w0 W
  most : M.length + op.length ≤ i
  opt : tot op ≤ tot (c.take i)
section
variable {w0 : World} {c : List ByteArray} {i : Nat} {W W' : World} {op : List ByteArray} {M : List (List ByteArray × Value × Value)} {vo vp : Value} {B2 : Nat}
theorem RI.start (w : World) (c : List ByteArray) : RI w c 0 w [] [] (.slice none 0 0) (.slice none 0 0) w.heap.size :=
  ⟨World.ownsRow_nil _ _ _ _, Nat.le_refl _, Nat.le_refl _, fun x hx => absurd hx (by simp), Rks.nil _ _, by simp [Gt.firsts, Gt.packs], Below.refl _ _, Nat.le_refl _, Nat.zero_le _⟩
theorem RI.stay0 {W : World} (h : RI w0 c 0 w0 [] [] (.slice none 0 0) (.slice none 0 0) w0.heap.size) (hb : Below w0.heap.size w0 W) : RI w0 c 0 W [] [] (.slice none 0 0) (.slice none 0 0) W.heap.size :=
  ⟨World.ownsRow_nil _ _ _ _, hb.size, Nat.le_refl _, fun x hx => absurd hx (by simp), Rks.nil _ _, h.come, hb, h.most, h.opt⟩
theorem RI.stay (h : RI w0 c i W op M vo vp B2) (hb : Below W.heap.size W W') : RI w0 c i W' op M vo vp B2 :=
  ⟨own_below h.row hb (Nat.le_refl _), h.lo2, Nat.le_trans h.hi2 hb.size, h.old, h.pks.below hb (Nat.le_refl _), h.come, h.below.trans (hb.mono h.below.size), h.most, h.opt⟩
/-- one that was met is left out -/
theorem RI.met (h : RI w0 c i W op M vo vp B2) (hi : i < c.length) (hm : inB (c.take i) (c.getD i ⟨#[]⟩) = true) : RI w0 c (i + 1) W op M vo vp B2 :=
  ⟨h.row, h.lo2, h.hi2, h.old, h.pks, by rw [firsts_met' hi hm]; exact h.come, h.below, Nat.le_succ_of_le h.most, by rw [tot_take c i hi]; have := h.opt; omega⟩
theorem drop_new (hi : i < c.length) (hm : inB (c.take i) (c.getD i ⟨#[]⟩) = false) : (Gt.firsts [] c).drop (Gt.firsts [] (c.take i)).length = c.getD i ⟨#[]⟩ :: (Gt.firsts [] c).drop (Gt.firsts [] (c.take (i + 1))).length := by
  obtain ⟨h1, h2, h3⟩ := firsts_at hi hm
  rw [drop_next h1, h2, h3]
theorem RI.may (h : RI w0 c i W op M vo vp B2) (hM : ∀ q ∈ Gt.packs c, May (q.map bs)) (hx : c.length ≤ i ∨ (i < c.length ∧ inB (c.take i) (c.getD i ⟨#[]⟩) = false ∧ 4096 < tot op + (c.getD i ⟨#[]⟩).size)) (he : op ≠ []) : May (op.map bs) := by
  refine hM op ?_
  rw [← h.come]
  refine List.mem_append_right _ ?_
  rcases hx with hx | ⟨h1, h2, h3⟩
  · rw [List.take_of_length_le hx, List.drop_eq_nil_of_le (Nat.le_refl _), Gt.go, if_neg he]; simp
  · rw [drop_new h1 h2, Gt.go_shut ⟨he, h3⟩]; simp
theorem RI.shut {vp' : Value} {vA vB : Value} {W2 : World} (h : RI w0 c i W op M vo vp B2) (hi : i < c.length) (hm : inB (c.take i) (c.getD i ⟨#[]⟩) = false) (he : op ≠ []) (h3 : 4096 < tot op + (c.getD i ⟨#[]⟩).size)
    (hp : Rks W2 w0.heap.size vp' (M ++ [(op, vA, vB)])) (hb : Below w0.heap.size W W2) : RI w0 c i W2 [] (M ++ [(op, vA, vB)]) (.slice none 0 0) vp' W2.heap.size := by
  refine ⟨World.ownsRow_nil _ _ _ _, Nat.le_trans h.below.size hb.size, Nat.le_refl _, fun x hx j hj => ((hp.ra x hx).lt j hj).2, hp, ?_, h.below.trans hb, ?_, by rw [tot_nil]; omega⟩
  · rw [← h.come, drop_new hi hm, Gt.go_shut ⟨he, h3⟩, Gt.go_open (op := []) (by simp)]; simp
  · have := h.most
    have : 0 < op.length := List.length_pos_iff.2 he
    simp; omega
theorem RI.push {vo2 : Value} {W2 : World} (h : RI w0 c i W op M vo vp B2) (hi : i < c.length) (hm : inB (c.take i) (c.getD i ⟨#[]⟩) = false) (h2 : op = [] ∨ tot op + (c.getD i ⟨#[]⟩).size ≤ 4096)
    (hrow : W2.ownsRow B2 9 1 vo2 (op.length + 1) (op.map Value.string ++ [.string (c.getD i ⟨#[]⟩)])) (hg : (W.alloc (.cells #[.string (c.getD i ⟨#[]⟩)] 9)).grownBy W2 vo.ownBlock) : RI w0 c (i + 1) W2 (op ++ [c.getD i ⟨#[]⟩]) M vo2 vp B2 := by
  have hal : Below W.heap.size W (W.alloc (.cells #[.string (c.getD i ⟨#[]⟩)] 9)) := (Below.refl _ _).alloc (Nat.le_refl _) _
  have hrw := h.row.alloc (.cells #[.string (c.getD i ⟨#[]⟩)] 9)
  have hs := hg.size
  have hs1 := h.hi2
  have hs2 := h.below.size
  refine ⟨by rw [List.length_append, List.map_append]; exact hrow, h.lo2, by simp at hs; omega, h.old, ?_, ?_, ?_, ?_, ?_⟩
  · refine (h.pks.below hal (Nat.le_refl _)).grown hrw hg fun x hx => ?_
    cases he : x.2.1.ownBlock with
    | none => exact .inl rfl
    | some j =>
      refine .inr fun e => ?_
      have h1 := h.old x hx j he
      have h2 := (h.row.lt j e.symm).1
      omega
  · rw [← h.come, drop_new hi hm, Gt.go_open (fun h3 => by rcases h2 with h2 | h2; exact h3.1 h2; omega)]
  · exact (h.below.alloc hs2 _).grown hg (by simp; omega) (fun j hj => Nat.le_trans h.lo2 (h.row.lt j hj).1)
  · rw [List.length_append]; have := h.most; simp; omega
  · rw [tot_snoc, tot_take c i hi]; have := h.opt; omega
end
section
variable {w0 : World} {c : List ByteArray} {i : Nat} {W W1 W2 : World} {op : List ByteArray} {M : List (List ByteArray × Value × Value)} {vo vp vp' vA vB : Value} {B2 : Nat}
/-- a pack's rows, made by the document's one, and the row of packs grown by it -/
theorem RI.put (h : RI w0 c i W op M vo vp B2) (hA : W1.ownsRow W.heap.size 9 1 vA op.length ((op.map dg).map Value.string)) (hB : W1.ownsRow W.heap.size 42 3 vB op.length ((plT op).flatMap pl3)) (hb : Below W.heap.size W W1)
    (hrow : W2.ownsRow w0.heap.size 34 4 vp' (M.length + 1) (M.flatMap rkC ++ rkC (op, vA, vB))) (hg : (W1.alloc (.cells #[.string (pb op), .string (dg (pb op)), vA, vB] 34)).grownBy W2 vp.ownBlock) :
    Rks W2 w0.heap.size vp' (M ++ [(op, vA, vB)]) ∧ Below w0.heap.size W W2 := by
  have hs := h.below.size
  have hs1 := hb.size
  have hal : Below W1.heap.size W1 (W1.alloc (.cells #[.string (pb op), .string (dg (pb op)), vA, vB] 34)) := (Below.refl _ _).alloc (Nat.le_refl _) _
  refine ⟨((h.pks.below hb (Nat.le_refl _)).below hal (Nat.le_refl _)).push (own_mono (own_below hA hal (Nat.le_refl _)) hs) (own_mono (own_below hB hal (Nat.le_refl _)) hs) hrow hg, ?_⟩
  exact (((hb.mono hs).trans (hal.mono (Nat.le_trans hs hs1)))).grown hg (by simp; omega) (fun j hj => (h.pks.row.lt j hj).1)
theorem RI.row34 (h : RI w0 c i W op M vo vp B2) (hb : Below W.heap.size W W1) (o : Obj) : (W1.alloc o).ownsRow w0.heap.size 34 4 vp M.length (M.flatMap rkC) := (own_below h.pks.row hb (Nat.le_refl _)).alloc o
theorem RI.last (h : RI w0 c i W op M vo vp B2) (hi : c.length ≤ i) : M.map (·.1) ++ (if op = [] then [] else [op]) = Gt.packs c := by
  have := h.come
  rw [List.take_of_length_le hi, List.drop_eq_nil_of_le (Nat.le_refl _), Gt.go] at this
  exact this
end
theorem rk_new (w : World) (p : List ByteArray) (vA vB : Value) (t : TypeId) : ∀ j u, (rkC (p, vA, vB))[j]? = some u → (w.alloc (.cells #[.string (pb p), .string (dg (pb p)), vA, vB] t)).cell? ((⟨w.heap.size, 0, none⟩ : Addr).add j) = some u := by
  intro j u hu
  rw [add_zero', (Has.new w w.heap.size #[.string (pb p), .string (dg (pb p)), vA, vB] t rfl).cell]
  simpa [rkC] using hu
theorem rk_one (p : List ByteArray) (x y : Option Addr × Nat × Nat) : ∀ u ∈ rkC (p, .slice x.1 x.2.1 x.2.2, .slice y.1 y.2.1 y.2.2), u.oneCell' = true := by
  intro u hu
  simp [rkC] at hu
  rcases hu with rfl | rfl | rfl | rfl <;> rfl
theorem emp_ne {s : ByteArray} (h : 1 ≤ s.size) : (s.toList == (⟨#[]⟩ : ByteArray).toList) = false := str_ne (fun e => by rw [e] at h; exact absurd h (by decide))
theorem emp_ne2 {s : ByteArray} (h : 1 ≤ s.size) : s.toList.isEmpty = false := by
  simpa using emp_ne h
set_option maxRecDepth 20000 in
set_option maxHeartbeats 4000000 in
theorem refGather_no (c : List ByteArray) (A : Option Addr) (cap : Nat) (w : World) (h : Tx w A c) (hc : c.length ≤ 100000) (hct : tot c ≤ 100000000) (hb : badB c = true) :
    Calls Tryd.prog 9 #[.slice A c.length cap] w fun e w' => e = .returned (.tuple #[.slice none 0 0, .int .i64 4]) ∧ Below w.heap.size w w' := by
  obtain ⟨n, hn⟩ : ∃ n, n = c.length := ⟨_, rfl⟩
  have HN := hid hn
  have HL := hid h
  have HCT := hid hct
  have HBd := hid hb
  rw [← hn] at hc ⊢
  clear hn h hct hb
  go_enter Tryd.func9, Tryd.ntmps9
  go_wp2_with fail
  go_loopw [4] (fun v4 wr => ∃ k : Nat, k ≤ n ∧ v4 = .int .i64 (k : Int) ∧ Hid (badB (c.take k) = false) ∧ Hid (Below w.heap.size w wr)) (fun v4 _ => n - (intOf v4).toNat)
  case atStart => exact ⟨0, Nat.zero_le _, rfl, rfl, Below.refl _ _⟩
  case round =>
    obtain ⟨k, hk, rfl, HB, HC⟩ := hrel
    by_cases hlt : k < n
    · have hkc : k < c.length := by rw [← HN.out]; exact hlt
      obtain ⟨gc, oc, rfl, hgc, c0⟩ := tx_cell HL.out HC.out hkc
      have hsz : (c.getD k ⟨#[]⟩).size ≤ 100000000 := by have := tot_le (getD_mem hkc); have := HCT.out; omega
      have HT := hid (bad_take hkc)
      generalize c.getD k ⟨#[]⟩ = s at *
      have i1 : (k : Int) < (n : Int) := by omega
      have i0 : (0 : Int) ≤ (k : Int) := by omega
      have wk : IntKind.i64.wrap ((k : Int) + 1) = ((k + 1 : Nat) : Int) := by rw [IntKind.wrap_i64]; omega
      have hk1 : k + 1 ≤ n := hlt
      by_cases h1 : 1 ≤ s.size
      · have hq := emp_ne h1
        have hq2 := emp_ne2 h1
        by_cases h2 : s.size ≤ 16384
        · have d1 : decide ((16384 : Int) < (s.size : Int)) = false := by simp; omega
          have HB2 : Hid (badB (c.take (k + 1)) = false) := hid (by rw [HT.out, HB.out, (mc_iff s).2 ⟨h1, h2⟩]; rfl)
          clear h1 h2 hsz
          go_wp2_with fail
          go_roundw
          case rel => exact ⟨k + 1, hk1, by rfl, HB2, HC⟩
          case measure => first | (simp [intOf]; done) | (simp [intOf]; omega)
        · have d1 : decide ((16384 : Int) < (s.size : Int)) = true := by simp; omega
          clear h1 h2 hsz
          go_wp2_with fail
          exact bodyPost_ret (v := .tuple #[.slice none 0 0, .int .i64 4]) (by simp [results, Tryd.results9, go_sem]) rfl ⟨rfl, HC.out⟩
      · obtain rfl : s = ⟨#[]⟩ := by
          have : s.size = 0 := by omega
          exact ByteArray.ext (Array.eq_empty_of_size_eq_zero this)
        clear h1 hsz
        go_wp2_with fail
        exact bodyPost_ret (v := .tuple #[.slice none 0 0, .int .i64 4]) (by simp [results, Tryd.results9, go_sem]) rfl ⟨rfl, HC.out⟩
    · exfalso
      obtain rfl : k = n := by omega
      have h1 := HB.out
      rw [List.take_of_length_le (by rw [← HN.out]; exact Nat.le_refl _), HBd.out] at h1
      cases h1
set_option maxRecDepth 20000 in
set_option maxHeartbeats 8000000 in
theorem refGather_yes (c : List ByteArray) (A : Option Addr) (cap : Nat) (w : World) (h : Tx w A c) (hc : c.length ≤ 100000) (hct : tot c ≤ 100000000) (hb : badB c = false) :
    Calls Tryd.prog 9 #[.slice A c.length cap] w fun e w' => ∃ v M, e = .returned (.tuple #[v, .int .i64 0]) ∧ Rks w' w.heap.size v M ∧ M.map (·.1) = Gt.packs c ∧ Below w.heap.size w w' := by
  obtain ⟨i0, hi, hz0, hz1, hz2⟩ := info_parts (show (Tryd.prog.info? 9).map (fun i => (i.zero, i.size, i.bytes)) = some (some (.string ⟨#[]⟩), 1, 16) by kernel_rfl)
  obtain ⟨j0, hjI, hy0, hy1, hy2⟩ := info_parts (show (Tryd.prog.info? 34).map (fun i => (i.zero, i.size, i.bytes)) = some (some (.agg #[.string ⟨#[]⟩, .string ⟨#[]⟩, .slice none 0 0, .slice none 0 0]), 4, 80) by kernel_rfl)
  obtain ⟨n, hn⟩ : ∃ n, n = c.length := ⟨_, rfl⟩
  have HN := hid hn
  have HL := hid h
  have HCT := hid hct
  have HBd := hid hb
  have HMy := hid (Gt.packs_may (bad_no hb))
  rw [← hn] at hc ⊢
  clear hn h hct hb
  go_enter Tryd.func9, Tryd.ntmps9
  go_wp2_with fail
  go_loopw [4] (fun v4 wr => ∃ k : Nat, k ≤ n ∧ v4 = .int .i64 (k : Int) ∧ Hid (Below w.heap.size w wr)) (fun v4 _ => n - (intOf v4).toNat)
  case atStart => exact ⟨0, Nat.zero_le _, rfl, Below.refl _ _⟩
  case round =>
    obtain ⟨k, hk, rfl, HC⟩ := hrel
    by_cases hlt : k < n
    · have hkc : k < c.length := by rw [← HN.out]; exact hlt
      obtain ⟨gc, oc, rfl, hgc, c0⟩ := tx_cell HL.out HC.out hkc
      obtain ⟨h1, h2⟩ := bad_no HBd.out _ (getD_mem hkc)
      generalize c.getD k ⟨#[]⟩ = s at *
      have i1 : (k : Int) < (n : Int) := by omega
      have i0 : (0 : Int) ≤ (k : Int) := by omega
      have wk : IntKind.i64.wrap ((k : Int) + 1) = ((k + 1 : Nat) : Int) := by rw [IntKind.wrap_i64]; omega
      have hk1 : k + 1 ≤ n := hlt
      have hq := emp_ne h1
      have hq2 := emp_ne2 h1
      have d1 : decide ((16384 : Int) < (s.size : Int)) = false := by simp; omega
      clear h1 h2
      go_wp2_with fail
      go_roundw
      case rel => exact ⟨k + 1, hk1, by rfl, HC⟩
      case measure => first | (simp [intOf]; done) | (simp [intOf]; omega)
    · obtain rfl : n = k := by omega
      have i1 : ¬ ((n : Int) < (n : Int)) := by omega
      have HG0 : Hid (RI w c 0 wr [] [] (.slice none 0 0) (.slice none 0 0) wr.heap.size) := hid ((RI.start w c).stay0 HC.out)
      generalize wr = w1 at *
      go_wp2_with fail
      go_loopw [5, 6, 7, 8, 9, 10] (fun v5 v6 v7 v8 _ _ wr => ∃ (k : Nat) (op : List ByteArray) (M : List (List ByteArray × Value × Value)) (vo vp : Value) (B2 : Nat), k ≤ n ∧ v8 = .int .i64 (k : Int) ∧ v5 = vp ∧ v6 = vo ∧ v7 = .int .i64 (tot op : Int) ∧ Hid (RI w c k wr op M vo vp B2)) (fun _ _ _ v8 _ _ _ => n - (intOf v8).toNat)
      case atStart => exact ⟨0, [], [], _, _, _, Nat.zero_le _, rfl, rfl, rfl, rfl, HG0⟩
      case round =>
        clear HG0
        obtain ⟨k, op, M, vo, vp, B2, hk, rfl, rfl, rfl, rfl, HG⟩ := hrel
        obtain ⟨A3, cap3, ev3, hl3, hx3⟩ := own_tx HG.out.row
        clear hl3
        obtain ⟨A4, cap4, ev4⟩ := HG.out.pks.slice
        subst ev3 ev4
        have HX3 := hid hx3
        clear hx3
        have hopl := HG.out.most
        have hopt := HG.out.opt
        by_cases hlt : k < n
        · have hkc : k < c.length := by rw [← HN.out]; exact hlt
          obtain ⟨gc, oc, rfl, hgc, cc⟩ := tx_cell HL.out HG.out.below hkc
          have hsz : (c.getD k ⟨#[]⟩).size ≤ 100000000 := by have := tot_le (getD_mem hkc); have := HCT.out; omega
          have hto : tot op ≤ 100000000 := by have := tot_take_le c k; have := HCT.out; omega
          have HPush : Hid (inB (c.take k) (c.getD k ⟨#[]⟩) = false → ∀ (W W2 : World) (op : List ByteArray) (M : List (List ByteArray × Value × Value)) (vo vo2 vp : Value) (B2 : Nat), RI w c k W op M vo vp B2 → (op = [] ∨ tot op + (c.getD k ⟨#[]⟩).size ≤ 4096) → W2.ownsRow B2 9 1 vo2 (op.length + 1) (op.map Value.string ++ [.string (c.getD k ⟨#[]⟩)]) → (W.alloc (.cells #[.string (c.getD k ⟨#[]⟩)] 9)).grownBy W2 vo.ownBlock → RI w c (k + 1) W2 (op ++ [c.getD k ⟨#[]⟩]) M vo2 vp B2 ∧ W2.cell? ⟨gc, oc + k, none⟩ = some (.string (c.getD k ⟨#[]⟩))) :=
            hid fun hm W W2 op M vo vo2 vp B2 hG h2 hr hg => by
              have h9 := hG.push hkc hm h2 hr hg
              obtain ⟨g9, o9, e9, _, c9⟩ := tx_cell HL.out h9.below hkc
              cases e9
              exact ⟨h9, c9⟩
          have HCell : Hid (∀ W : World, Below w.heap.size w W → W.cell? ⟨gc, oc + k, none⟩ = some (.string (c.getD k ⟨#[]⟩))) := hid fun W hW => by
            obtain ⟨g9, o9, e9, _, c9⟩ := tx_cell HL.out hW hkc
            cases e9
            exact c9
          have HMay : Hid (inB (c.take k) (c.getD k ⟨#[]⟩) = false → 4096 < tot op + (c.getD k ⟨#[]⟩).size → op ≠ [] → May (op.map bs)) := hid fun hm h2 he => HG.out.may HMy.out (.inr ⟨hkc, hm, h2⟩) he
          have HSh : Hid (inB (c.take k) (c.getD k ⟨#[]⟩) = false → op ≠ [] → 4096 < tot op + (c.getD k ⟨#[]⟩).size → ∀ (W W2 : World) (vA vB vp' : Value), RI w c k W op M (.slice A3 op.length cap3) (.slice A4 M.length cap4) B2 → Rks W2 w.heap.size vp' (M ++ [(op, vA, vB)]) ∧ Below w.heap.size W W2 → RI w c k W2 [] (M ++ [(op, vA, vB)]) (.slice none 0 0) vp' W2.heap.size) :=
            hid fun hm he h2 W W2 vA vB vp' hG hp => hG.shut hkc hm he h2 hp.1 hp.2
          have HMet : Hid (inB (c.take k) (c.getD k ⟨#[]⟩) = true → ∀ W, RI w c k W op M (.slice A3 op.length cap3) (.slice A4 M.length cap4) B2 → RI w c (k + 1) W op M (.slice A3 op.length cap3) (.slice A4 M.length cap4) B2) := hid fun hm W hG => hG.met hkc hm
          generalize c.getD k ⟨#[]⟩ = s at *
          have i1 : (k : Int) < (n : Int) := by omega
          have i00 : (0 : Int) ≤ (k : Int) := by omega
          have wk : IntKind.i64.wrap ((k : Int) + 1) = ((k + 1 : Nat) : Int) := by rw [IntKind.wrap_i64]; omega
          have wt : IntKind.i64.wrap ((tot op : Int) + (s.size : Int)) = (tot op : Int) + (s.size : Int) := by rw [IntKind.wrap_i64]; omega
          have hk1 : k + 1 ≤ n := hlt
          have HGC := hid hgc
          have HCc := hid cc
          have HWg : Hid (w.heap.size ≤ wr.heap.size) := hid HG.out.below.size
          generalize wr = w3 at *
          clear hgc cc
          go_wp2_with fail
          go_loopw [9, 10] (fun v9 v10 wy => ∃ j : Nat, j ≤ k ∧ v10 = .int .i64 (j : Int) ∧ v9 = .bool (inB (c.take j) s) ∧ Hid (Below w3.heap.size w3 wy)) (fun _ v10 _ => k - (intOf v10).toNat)
          case atStart => exact ⟨0, Nat.zero_le _, rfl, rfl, Below.refl _ _⟩
          case round =>
            obtain ⟨j, hj, rfl, rfl, HY⟩ := hrel
            have c2 := (HY.out.cell (p := ⟨gc, oc + k, none⟩) (Nat.lt_of_lt_of_le HGC.out HWg.out)).trans HCc.out
            by_cases hlk : j < k
            · have hjc : j < c.length := by omega
              obtain ⟨g2, o2, e2, hg2, c1⟩ := tx_cell HL.out (HG.out.below.trans (HY.out.mono HWg.out)) hjc
              cases e2
              have hnx := inB_next hjc s
              obtain ⟨y, hy⟩ : ∃ y, y = c.getD j ⟨#[]⟩ := ⟨_, rfl⟩
              rw [← hy] at c1 hnx
              obtain ⟨t1, ht1⟩ : ∃ t1, t1 = inB (c.take (j + 1)) s := ⟨_, rfl⟩
              have HT1 := hid ht1
              rw [← ht1] at hnx
              have i4 : (j : Int) < (k : Int) := by omega
              have i5 : (j : Int) < (n : Int) := by omega
              have i40 : (0 : Int) ≤ (j : Int) := by omega
              have wj : IntKind.i64.wrap ((j : Int) + 1) = ((j + 1 : Nat) : Int) := by rw [IntKind.wrap_i64]; omega
              have hj1 : j + 1 ≤ k := hlk
              clear hy ht1 hg2 hopl hopt hsz hto
              cases ht : inB (c.take j) s with
              | true =>
                rw [ht] at hnx
                have hnx : t1 = true := by rw [hnx]; rfl
                have HE := hid hnx
                clear hnx ht
                go_wp2_with fail
                go_quiet (fail)
                go_wp2_with fail
                go_roundw
                case rel => exact ⟨j + 1, hj1, by rfl, by rw [← HT1.out, HE.out], below_draws HY.out _⟩
                case measure => first | (simp [intOf]; done) | (simp [intOf]; omega)
              | false =>
                rw [ht] at hnx
                clear ht
                by_cases hys : y = s
                · subst hys
                  have hnx : t1 = true := by rw [hnx]; simp
                  have HE := hid hnx
                  clear hnx
                  go_wp2_with fail
                  go_quiet (fail)
                  go_wp2_with fail
                  go_roundw
                  case rel => exact ⟨j + 1, hj1, by rfl, by rw [← HT1.out, HE.out], below_draws HY.out _⟩
                  case measure => first | (simp [intOf]; done) | (simp [intOf]; omega)
                · have hnx : t1 = false := by rw [hnx, decide_eq_false hys]; rfl
                  have HE := hid hnx
                  have hq := str_ne hys
                  clear hnx
                  go_wp2_with fail
                  go_quiet (fail)
                  go_wp2_with fail
                  go_roundw
                  case rel => exact ⟨j + 1, hj1, by rfl, by rw [← HT1.out, HE.out], below_draws HY.out _⟩
                  case measure => first | (simp [intOf]; done) | (simp [intOf]; omega)
            · obtain rfl : k = j := by omega
              have i4 : ¬ ((k : Int) < (k : Int)) := by omega
              have HGs := hid ((HG.out.stay (HY.out)))
              cases ht : inB (c.take k) s with
              | true =>
                have HM2 := hid (HMet.out ht _ HGs.out)
                clear ht HPush HMay HSh HMet
                go_wp2_with fail
                go_roundw
                case rel => exact ⟨k + 1, op, M, _, _, B2, hk1, by rfl, rfl, rfl, rfl, HM2⟩
                case measure => first | (simp [intOf]; done) | (simp [intOf]; omega)
              | false =>
                replace HPush := hid (HPush.out ht)
                replace HMay := hid (HMay.out ht)
                replace HSh := hid (HSh.out ht)
                clear ht HMet
                by_cases hop : op = []
                · have HOp := hid hop
                  have d1 : decide ((0 : Int) < (op.length : Int)) = false := by rw [hop]; decide
                  have q1 : ¬ ((0 : Int) < (op.length : Int)) := by rw [hop]; decide
                  clear hop
                  clear HMay HSh
                  go_wp2_with (at_builtin; go_loud (refine wpList_append_own _ rfl _ _ 22 rfl B2 9 i0 (.string ⟨#[]⟩) 1 16 Tryd.underlying22 hi hz0 hz1 hz2 rfl (by decide) (.slice A3 op.length cap3) op.length _ rfl (HGs.out.row.alloc _) ⟨wr.heap.size, 0, none⟩ 1 1 [.string s] rfl rfl (cell_one_new _ _ _) (by simp [Value.oneCell']) (by unfold maxLen; omega) (by omega) (Nat.le_trans HGs.out.hi2 (by simp)) ?_; intro v' w4 hown' hgrow _; obtain ⟨hg9, c9⟩ := HPush.out _ _ _ _ _ _ _ _ HGs.out (.inl HOp.out) hown' hgrow; have HN9 := hid hg9; clear hg9 hown' hgrow))
                  go_roundw
                  case rel => exact ⟨k + 1, op ++ [s], M, _, _, B2, hk1, by rfl, rfl, rfl, by rw [tot_snoc, Int.natCast_add], HN9⟩
                  case measure => first | (simp [intOf]; done) | (simp [intOf]; omega)
                · have hop2 : 0 < op.length := List.length_pos_iff.2 hop
                  have HOp := hid hop
                  have d1 : decide ((0 : Int) < (op.length : Int)) = true := by simp; omega
                  have q1 : (0 : Int) < (op.length : Int) := by omega
                  clear hop
                  by_cases hle : tot op + s.size ≤ 4096
                  · have HLe := hid hle
                    have d2 : decide ((4096 : Int) < (tot op : Int) + (s.size : Int)) = false := by simp; omega
                    have q2 : ¬ ((4096 : Int) < (tot op : Int) + (s.size : Int)) := by omega
                    clear hle
                    clear HMay HSh
                    go_wp2_with (at_builtin; go_loud (refine wpList_append_own _ rfl _ _ 22 rfl B2 9 i0 (.string ⟨#[]⟩) 1 16 Tryd.underlying22 hi hz0 hz1 hz2 rfl (by decide) (.slice A3 op.length cap3) op.length _ rfl (HGs.out.row.alloc _) ⟨wr.heap.size, 0, none⟩ 1 1 [.string s] rfl rfl (cell_one_new _ _ _) (by simp [Value.oneCell']) (by unfold maxLen; omega) (by omega) (Nat.le_trans HGs.out.hi2 (by simp)) ?_; intro v' w4 hown' hgrow _; obtain ⟨hg9, c9⟩ := HPush.out _ _ _ _ _ _ _ _ HGs.out (.inr HLe.out) hown' hgrow; have HN9 := hid hg9; clear hg9 hown' hgrow))
                    go_roundw
                    case rel => exact ⟨k + 1, op ++ [s], M, _, _, B2, hk1, by rfl, rfl, rfl, by rw [tot_snoc, Int.natCast_add], HN9⟩
                    case measure => first | (simp [intOf]; done) | (simp [intOf]; omega)
                  · have d2 : decide ((4096 : Int) < (tot op : Int) + (s.size : Int)) = true := by simp; omega
                    have q2 : (4096 : Int) < (tot op : Int) + (s.size : Int) := by omega
                    have HGt : Hid (4096 < tot op + s.size) := hid (by omega)
                    have HOne := hid (fun W h => refOne_any op A3 cap3 W h (HMay.out HGt.out HOp.out))
                    have HLo := hid HGs.out.below.size
                    clear HMay
                    go_wp2_with fail
                    refine (HOne.out _ (HX3.out.below HY.out)).mono ?_
                    rintro e w5 ⟨vA, vB, rfl, hA, hB, hb5⟩
                    obtain ⟨A5, c5, e5⟩ := own_slice hA
                    obtain ⟨A6, c6, e6⟩ := own_slice hB
                    subst e5 e6
                    have HA := hid hA
                    have HB := hid hB
                    have HB5 := hid hb5
                    have hs5 : w.heap.size ≤ w5.heap.size := Nat.le_trans HLo.out hb5.size
                    have hr34 := HGs.out.row34 hb5
                    clear hA hB hb5
                    go_upto_region 20 with (at_builtin; go_loud (refine wpList_append_own _ rfl _ _ 29 rfl w.heap.size 34 j0 (.agg #[.string ⟨#[]⟩, .string ⟨#[]⟩, .slice none 0 0, .slice none 0 0]) 4 80 Tryd.underlying29 hjI hy0 hy1 hy2 rfl (by decide) (.slice A4 M.length cap4) M.length _ rfl (hr34 _) ⟨w5.heap.size, 0, none⟩ 1 1 (rkC (op, .slice A5 op.length c5, .slice A6 op.length c6)) rfl rfl (rk_new _ _ _ _ _) (rk_one op (A5, op.length, c5) (A6, op.length, c6)) (by unfold maxLen; omega) (by omega) (by simp; omega) ?_; intro v6 w6 hown6 hgrow6 _))
                    have HP6 := hid (HGs.out.put HA.out HB.out HB5.out hown6 hgrow6)
                    clear hown6 hgrow6 hr34 HA HB
                    have HSh6 := hid (HSh.out HOp.out HGt.out _ _ _ _ _ HGs.out HP6.out)
                    have hs6 : w.heap.size ≤ w6.heap.size := HSh6.out.lo2
                    have c6 := HCell.out _ HSh6.out.below
                    clear HSh HP6 HGs HCell
                    go_wp2_with (at_builtin; go_loud (refine wpList_append_own _ rfl _ _ 22 rfl w6.heap.size 9 i0 (.string ⟨#[]⟩) 1 16 Tryd.underlying22 hi hz0 hz1 hz2 rfl (by decide) (.slice none 0 0) ([] : List ByteArray).length _ rfl (HSh6.out.row.alloc _) ⟨w6.heap.size, 0, none⟩ 1 1 [.string s] rfl rfl (cell_one_new _ _ _) (by simp [Value.oneCell']) (by simp [maxLen]) (by simp) (Nat.le_trans HSh6.out.hi2 (by simp)) ?_; intro v' w4 hown' hgrow _; obtain ⟨hg9, c9⟩ := HPush.out _ _ _ _ _ _ _ _ HSh6.out (.inl rfl) hown' hgrow; have HN9 := hid hg9; clear hg9 hown' hgrow))
                    go_roundw
                    case rel => exact ⟨k + 1, [s], _, _, _, _, hk1, by rfl, rfl, rfl, by rw [tot_one], HN9⟩
                    case measure => first | (simp [intOf]; done) | (simp [intOf]; omega)
        · obtain rfl : n = k := by omega
          have i1 : ¬ ((n : Int) < (n : Int)) := by omega
          have HLast := hid (HG.out.last (by rw [← HN.out]; exact Nat.le_refl _))
          by_cases hop : op = []
          · have d1 : decide ((0 : Int) < (op.length : Int)) = false := by rw [hop]; decide
            have q1 : ¬ ((0 : Int) < (op.length : Int)) := by rw [hop]; decide
            have HF : Hid (M.map (·.1) = Gt.packs c) := hid (by have := HLast.out; rw [if_pos hop, List.append_nil] at this; exact this)
            clear hop
            go_wp2_with fail
            exact bodyPost_ret (v := .tuple #[.slice A4 M.length cap4, .int .i64 0]) (by simp [results, Tryd.results9, go_sem]) rfl ⟨_, rfl, M, HG.out.pks, HF.out, HG.out.below⟩
          · have hop2 : 0 < op.length := List.length_pos_iff.2 hop
            have d1 : decide ((0 : Int) < (op.length : Int)) = true := by simp; omega
            have q1 : (0 : Int) < (op.length : Int) := by omega
            have HF := HLast.out
            rw [if_neg hop] at HF
            have HF := hid HF
            have hMy := HG.out.may HMy.out (.inl (by rw [← HN.out]; exact Nat.le_refl _)) hop
            have HOne := hid (fun W h => refOne_any op A3 cap3 W h hMy)
            have HLo := hid HG.out.below.size
            clear hop hMy HLast
            go_wp2_with fail
            refine (HOne.out _ HX3.out).mono ?_
            rintro e w5 ⟨vA, vB, rfl, hA, hB, hb5⟩
            obtain ⟨A5, c5, e5⟩ := own_slice hA
            obtain ⟨A6, c6, e6⟩ := own_slice hB
            subst e5 e6
            have HA := hid hA
            have HB := hid hB
            have HB5 := hid hb5
            have hs5 : w.heap.size ≤ w5.heap.size := Nat.le_trans HLo.out hb5.size
            have hr34 := HG.out.row34 hb5
            clear hA hB hb5
            go_upto_region 26 with (at_builtin; go_loud (refine wpList_append_own _ rfl _ _ 29 rfl w.heap.size 34 j0 (.agg #[.string ⟨#[]⟩, .string ⟨#[]⟩, .slice none 0 0, .slice none 0 0]) 4 80 Tryd.underlying29 hjI hy0 hy1 hy2 rfl (by decide) (.slice A4 M.length cap4) M.length _ rfl (hr34 _) ⟨w5.heap.size, 0, none⟩ 1 1 (rkC (op, .slice A5 op.length c5, .slice A6 op.length c6)) rfl rfl (rk_new _ _ _ _ _) (rk_one op (A5, op.length, c5) (A6, op.length, c6)) (by unfold maxLen; omega) (by omega) (by simp; omega) ?_; intro v6 w6 hown6 hgrow6 _))
            have HP6 := hid (HG.out.put HA.out HB.out HB5.out hown6 hgrow6)
            clear hown6 hgrow6 hr34 HA HB
            go_wp2_with fail
            exact bodyPost_ret (v := .tuple #[v6, .int .i64 0]) (by simp [results, Tryd.results9, go_sem]) rfl ⟨_, _, rfl, HP6.out.1, by rw [List.map_append]; exact HF.out, HG.out.below.trans HP6.out.2⟩
end Go.Proofs.YtjhjolnflkekoaaDoor
