/- The contract of Steps. -/
import Derived.Test.YtnhekngmgjnodaaDoorRange
import Derived.Test.YtnhekngmgjnodaaDoorTlI
import Derived.Test.YtnhekngmgjnodaaDoorOps
namespace Go.Proofs.YtnhekngmgjnodaaDoor
open Go.RowKit
open Pa
set_option linter.unusedVariables false
def stepsB (s : ByteArray) : List ByteArray := (steps (bs s)).map ofBs
theorem bs_nil (s : ByteArray) : bs s = [] ↔ s.size = 0 := by rw [← bs_length, List.length_eq_zero_iff]
theorem stepsB_no {s : ByteArray} (h : s.size = 0) : stepsB s = [] := by unfold stepsB steps; rw [if_pos ((bs_nil s).2 h)]; rfl
theorem stepsB_yes {s : ByteArray} (h : ¬ s.size = 0) : stepsB s = splB s := by unfold stepsB steps splB; rw [if_neg (fun x => h ((bs_nil s).1 x))]
/-- three boxes, and the iterator over them -/
def boxed3 (s : ByteArray) (w : World) : World := ((w.alloc (.cells #[.string s] 9)).alloc (.cells #[.string ⟨#[47]⟩] 9)).alloc (.cells #[.int .i64 0] 3)
theorem split_any (s : ByteArray) (w : World) : Calls Tryd.prog 23 #[.string s, .string ⟨#[47]⟩] w fun e w' => e = .returned (.func (.func 37) #[] #[.pointer (some ⟨w.heap.size + 1, 0, none⟩), .pointer (some ⟨w.heap.size, 0, none⟩), .pointer (some ⟨w.heap.size + 2, 0, none⟩)]) ∧ w' = boxed3 s w := by
  have C1 : Calls Tryd.prog 32 #[.string s, .string ⟨#[47]⟩, .int .i64 0] w fun e w' => e = .returned (.func (.func 37) #[] #[.pointer (some ⟨w.heap.size + 1, 0, none⟩), .pointer (some ⟨w.heap.size, 0, none⟩), .pointer (some ⟨w.heap.size + 2, 0, none⟩)]) ∧ w' = boxed3 s w := by
    go_enter Tryd.func32, Tryd.ntmps32
    go_wp2_with fail
    go_ret
    exact ⟨rfl, rfl⟩
  go_enter Tryd.func23, Tryd.ntmps23
  go_wp2_with fail
  refine C1.mono ?_
  rintro e w' ⟨rfl, rfl⟩
  go_wp2_with fail
  go_ret
  exact ⟨rfl, rfl⟩
theorem boxed3_has (s : ByteArray) (w : World) (q : Nat) (hq : q = w.heap.size) : Has (boxed3 s w) q #[.string s] 9 ∧ Has (boxed3 s w) (q + 1) #[.string ⟨#[47]⟩] 9 ∧ Has (boxed3 s w) (q + 2) #[.int .i64 0] 3 ∧ (boxed3 s w).heap.size = q + 3 ∧ Below w.heap.size w (boxed3 s w) := by
  unfold boxed3
  refine ⟨((Has.new w q _ _ hq).alloc _).alloc _, (Has.new _ (q + 1) _ _ (by simp [hq])).alloc _, Has.new _ (q + 2) _ _ (by simp [hq]), by simp [hq], (((Below.refl _ w).alloc (Nat.le_refl _) _).alloc (by simp) _).alloc (by simp; omega) _⟩
/-- what each slot of the drawn part holds -/
def spF (v0 : Value) (x : ByteArray) (z : Nat) (i : Nat) (v : Value) (W : World) : Prop := match i with
  | 10 => v = v0 | 11 => v = .string x | 12 => v = .string x
  | 13 => ∃ g, v = .slice (some ⟨g, 0, none⟩) 1 1 ∧ z ≤ g ∧ Has W g #[.string x] 9
  | _ => True
theorem spF_below {v0 : Value} {x : ByteArray} {z i : Nat} {v : Value} {W W' : World} (h : spF v0 x z i v W) (hb : Below W.heap.size W W') : spF v0 x z i v W' := by
  unfold spF at h ⊢
  split at h <;> first | exact h | (obtain ⟨g, h1, h2, h3⟩ := h; exact ⟨g, h1, h2, h3.below hb h3.lt⟩)
/-- what stands while the steps are gone through: q is the box of the row, then come the iterator's three -/
structure SI (q : Nat) (w : World) (pre : List ByteArray) (v : Value) (W : World) : Prop where
  d0 : Has W q #[v] 25
  row : W.ownsRow (q + 6) 9 1 v pre.length (pre.map Value.string)
  old : Below q w W
  sz : q + 6 ≤ W.heap.size
theorem prefix_len {pre l : List ByteArray} {x : ByteArray} (h : pre ++ [x] <+: l) : pre.length + 1 ≤ l.length ∧ x ∈ l := by
  have h1 := h.length_le
  simp at h1
  exact ⟨h1, h.subset (by simp)⟩
theorem spl_each (s : ByteArray) : ∀ x ∈ splB s, x.size ≤ s.size := by
  have h : ∀ (p : List Nat), ∀ x ∈ spl p, x.length ≤ p.length := by
    intro p
    induction p with
    | nil => intro x hx; simp [spl] at hx; subst hx; simp
    | cons y r ih =>
      intro x hx
      by_cases hy : y = 47
      · subst hy
        rw [spl_slash] at hx
        rcases List.mem_cons.1 hx with rfl | hx
        · simp
        · have := ih x hx; simp; omega
      · cases e : spl r with
        | nil => exact absurd e (spl_ne r)
        | cons a t =>
          rw [spl_byte hy e] at hx
          rcases List.mem_cons.1 hx with rfl | hx
          · have := ih a (by rw [e]; simp); simp; omega
          · have := ih x (by rw [e]; simp [hx]); simp; omega
  intro x hx
  unfold splB at hx
  obtain ⟨y, hy, rfl⟩ := List.mem_map.1 hx
  have := h _ y hy
  rw [ofBs_size]; rw [bs_length] at this; exact this
set_option maxRecDepth 100000 in
set_option maxHeartbeats 8000000 in
theorem steps_any (s : ByteArray) (hs : s.size ≤ 100000) (w : World) :
    Calls Tryd.prog 8 #[.string s] w fun e w' => ∃ v, e = .returned v ∧ w'.ownsRow w.heap.size 9 1 v (stepsB s).length ((stepsB s).map Value.string) ∧ Below w.heap.size w w' := by
  have hsa := @Oper.semAt_some
  obtain ⟨i0, hi, hz0, hz1, hz2⟩ := info_parts info9z
  by_cases h0 : s.size = 0
  · obtain rfl := (empty_iff s).2 h0
    rw [stepsB_no h0]
    go_enter Tryd.func8, Tryd.ntmps8
    go_wp2_with fail
    go_ret
    exact ⟨_, rfl, World.ownsRow_nil _ _ _ _, Below.refl _ _⟩
  rw [stepsB_yes h0]
  have hne := toL_no h0
  refine (callsIn_wide (n := 6)).1 ?_
  refine callsIn_of_wp_marks Tryd.func8 rfl trivial ?_ rfl
  simp only [Tryd.ntmps8, List.size_toArray, List.length_cons, List.length_nil, Nat.reduceAdd, Nat.reduceSub, Array.replicate_succ, Array.replicate_zero, List.push_toArray, List.append_toArray, List.nil_append, List.cons_append]
  refine wpIn_wide.2 ?_
  go_wp2_with fail
  refine (split_any s _).mono ?_
  rintro e w1 ⟨rfl, rfl⟩
  go_wp2_with fail
  obtain ⟨q, hq⟩ : ∃ q, q = w.heap.size := ⟨_, rfl⟩
  obtain ⟨w2, hw2⟩ : ∃ w2, w2 = w.alloc (.cells #[.slice none 0 0] 25) := ⟨_, rfl⟩
  have hz2' : w2.heap.size = q + 1 := by rw [hw2, hq]; simp
  have m0 : Has w2 q #[.slice none 0 0] 25 := by rw [hw2]; exact Has.new w q _ _ hq
  have hb2 : Below q w w2 := by rw [hw2, hq]; exact (Below.refl _ _).alloc (Nat.le_refl _) _
  obtain ⟨k1, k2, k3, hs3, hb3⟩ := boxed3_has s w2 (q + 1) hz2'.symm
  rw [← hw2]
  obtain ⟨W3, hW3⟩ : ∃ W3, W3 = boxed3 s w2 := ⟨_, rfl⟩
  rw [← hW3] at k1 k2 k3 hs3 hb3 ⊢
  have k0 : Has W3 q #[.slice none 0 0] 25 := m0.below hb3 m0.lt
  have hB3 : Below q w W3 := hb2.trans (hb3.mono (by omega))
  simp only [← hq]
  have HQ := hid hq
  clear hW3 hq hw2 hb2 hb3 m0 hz2'
  refine wpIn_wide (n := 6).1 ?_
  refine rangeSplit (n := 6) (c1 := q + 2) (c2 := q + 1) (c3 := q + 3) (s := s) (by omega) (by omega) rfl rfl k2 k1 k3 (by omega) (by omega)
    (fun pre W => ∃ v, SI q w pre v W) (fun _ _ => False)
    (fun o1 o2 => ⟨_, (k0.alloc _).alloc _, World.ownsRow_nil _ _ _ _, (hB3.alloc (by omega) _).alloc (by simp; omega) _, by simp; omega⟩)
    (fun pre W k o o' hk ho hc h => ?_) (fun _ _ _ _ _ _ _ _ h => h.elim)
    (fun pre W r h => ?_)
    (fun x => { tmps := #[.string s, undef, .slice none 0 0, .pointer (some ⟨q, 0, none⟩), .string x, .string s, .bool false, .string s, .func (.func 37) #[] #[.pointer (some ⟨q + 2, 0, none⟩), .pointer (some ⟨q + 1, 0, none⟩), .pointer (some ⟨q + 3, 0, none⟩)], .string x, undef, undef, undef, undef, undef, undef], defers := [] }) ?assign ?body ?done (fun _ _ h => h.elim)
  · obtain ⟨v, h⟩ := h
    have hk2 : q + 4 ≤ k := by omega
    exact ⟨v, (show Has (W.putObj k o) q #[v] 25 from (World.putObj_heap_other (by omega)).trans h.d0), ownsRow_putObj h.row o ho hc, h.old.grown (grownBy_putObj' W k o) (by have := h.d0.lt; omega) (fun j hj => by cases hj; omega), Nat.le_trans h.sz (grownBy_putObj' W k o).size⟩
  · obtain ⟨v, h⟩ := h
    exact ⟨v, h.d0.other _ _ (show q ≠ q + 1 by omega), row_set h.row (q + 1) 0 _ (by omega), h.old.setCell (p := ⟨q + 1, 0, none⟩) (show q ≤ q + 1 by omega) _, by have := h.sz; simp [World.setCell]; omega⟩
  case assign =>
    intro l x W K hK
    gi_wp2
    exact hK
  case body =>
    rintro l pre x W ⟨v, hC⟩ hwz hpre
    obtain ⟨hpl, hxm⟩ := prefix_len hpre
    have hxs := spl_each s x hxm
    have hsl := splB_len s
    have hml : pre.length + 1 ≤ maxLen := by
      have : 1000000 ≤ maxLen := by decide
      omega
    have c0 : W.cell? ⟨q, 0, none⟩ = some v := hC.d0.cell 0
    have l0 := hC.d0.lt
    have HC := hid hC
    clear hC hpre
    gi_wp2_with fail
    refine Tl.wpIn_mix_lit (by kernel_rfl) 4 [10, 11, 12, 13] 16 rfl (by kernel_rfl) (Below W.heap.size W) (spF v x W.heap.size) ((Below.refl _ _).drew)
      ⟨fun a' W' hC hF => ?_, fun a' W' hC hF => ?_, fun a' W' hC hF => ?_, fun a' W' hC hF => ?_, trivial⟩ ?_
    · exact Tl.si_v 10 _ rfl (by intro c h; cases h) (Tl.wanted_none rfl) hC rfl (rn_load25 rfl ((hF 3 (by decide +kernel)).2 (by decide)) ((hC.cell (p := ⟨q, 0, none⟩) l0).trans c0))
    · exact Tl.si_v 11 _ rfl (by intro c h; cases h) (Tl.wanted_none rfl) hC rfl (rn_move rfl ((hF 4 (by decide +kernel)).2 (by decide)))
    · refine Tl.si_call 24 #[_] (by intro c h; cases h) (Tl.wanted_none rfl) (rn_call1 rfl rfl ((hF 11 (by decide +kernel)).1 (by decide)) (en24 _ _)) ((clone_any x W' (by omega)).mono ?_)
      rintro e w'' ⟨rfl, hb⟩
      exact ⟨_, rfl, hC.trans (hb.mono hC.size), fun d v _ h => spF_below h hb, fun d hd => by cases hd; exact rfl⟩
    · refine Tl.si_w _ (by intro c h; cases h) (Tl.wanted_none rfl) (rn_bs25 rfl ((hF 12 (by decide +kernel)).1 (by decide))) (hC.alloc hC.size _) (fun d v _ h => spF_below h ((Below.refl _ _).alloc (Nat.le_refl _) _)) (fun d hd => by cases hd; exact ⟨_, rfl, hC.size, Has.new _ _ _ _ rfl⟩)
    intro v' W3' hB3' hv
    have v10 : v' 10 = v := hv 10 (by decide)
    obtain ⟨g, v13, hg, hG⟩ : ∃ g, v' 13 = .slice (some ⟨g, 0, none⟩) 1 1 ∧ W.heap.size ≤ g ∧ Has W3' g #[.string x] 9 := hv 13 (by decide)
    clear hv
    simp only [Tl.fill, List.drop_succ_cons, List.drop_zero]
    simp only [Act.put, List.setIfInBounds_toArray, List.set_cons_succ, List.set_cons_zero, v10, v13]
    generalize v' 11 = z11 at *
    generalize v' 12 = z12 at *
    clear v10 v13
    have HS5 := HC.out.sz
    have HR3 := row_below HC.out.row hB3'
    have hgc : ∀ j u, [Value.string x][j]? = some u → W3'.cell? ((⟨g, 0, none⟩ : Addr).add j) = some u := by
      intro j u hu
      have e : (⟨g, 0, none⟩ : Addr).add j = ⟨g, j, none⟩ := by unfold Addr.add; split <;> simp_all
      rw [e, hG.cell j]
      simpa using hu
    have hsz3 := hB3'.size
    have D0 := hid (HC.out.d0.below hB3' HC.out.d0.lt)
    have HB3 := hid hB3'
    have HHR := hid (fun k hk => (HR3.lt k hk).1)
    clear hB3' hG
    gi_wp2_with (gi_at_builtin; refine wpListIn_append_own _ rfl _ _ 25 rfl (q + 6) 9 i0 (.string ⟨#[]⟩) 1 16 Tryd.underlying25 hi hz0 hz1 hz2 rfl (by decide) v pre.length _ rfl HR3 ⟨g, 0, none⟩ 1 1 [.string x] rfl rfl hgc (by simp [Value.oneCell']) (by omega) (by omega) (by omega) ?_; intro v' w1 hown' hgrow _; obtain ⟨g', cap', rfl⟩ := ownsRow_succ hown'; have hB4 : Below (q + 6) W3' w1 := (Below.refl _ _).grown hgrow (by omega) HHR.out; have E0 := D0.out.below hB4 (by omega); have e0 := E0.cell 0; have e1 := E0.frozen 0; have HG := hid hgrow; clear hgrow)
    have hBW : Below (q + 6) W w1 := (HB3.out.mono (by omega)).trans hB4
    obtain ⟨W4, hW4⟩ : ∃ W4, W4 = w1.setCell ⟨q, 0, none⟩ (.slice (some ⟨g', 0, none⟩) (pre.length + 1) cap') := ⟨_, rfl⟩
    rw [← hW4]
    have hst : ∀ k, k < q + 6 → k ≠ q → W4.heap[k]? = W.heap[k]? := fun k h0 h1 => by
      rw [hW4, Below.heap_setCell _ _ _ _ h1]
      exact hBW.block k h0
    refine ⟨fun k hk => hst k (by omega) (by omega), .slice (some ⟨g', 0, none⟩) (pre.length + 1) cap', ?_, ?_, ?_, ?_⟩
    · rw [hW4]; exact E0.set 0 _
    · rw [hW4, List.map_append, List.length_append]
      exact row_set hown' q 0 _ (by omega)
    · rw [hW4]
      exact (HC.out.old.trans (hBW.mono (by omega))).setCell (p := ⟨q, 0, none⟩) (Nat.le_refl _) _
    · rw [hW4]
      have := hBW.size
      simp [World.setCell]; omega
  case done =>
    rintro W ⟨v, hC⟩ hK
    have c1 : W.cell? ⟨q, 0, none⟩ = some v := hC.d0.cell 0
    have HC := hid hC
    have HK := hid hK
    clear hC hK
    go_wp2_with fail
    refine ⟨by simp, .inl ⟨_, _, rfl, run_takeDeferred HK.out, ?_⟩⟩
    refine ⟨_, results_tmp rfl _ _ _, v, rfl, ?_, ?_⟩
    · exact own_mono (ownsRow_putObj HC.out.row _ HK.out rfl) (by have := HQ.out; omega)
    · rw [← HQ.out]
      exact HC.out.old.grown (grownBy_putObj' W _ _) (by have := HC.out.sz; omega) (fun j hj => by cases hj; omega)
end Go.Proofs.YtnhekngmgjnodaaDoor
