/- The contract of set. -/
import Derived.Test.YtgdiaflikfdnaaaOps
namespace Go.Proofs.Ytgdiaflikfdnaaa
open Go.RowKit Go.Maps
/-- something is set in the map that the store has -/
theorem After.grown {w w' : World} {S : Nat → Prop} {b : Nat} {s : St} {mo : Option Nat} {wv : Value} (h1 : Has w b (scells mo wv s) 83) (h3 : w.ownsRow 0 96 5 wv s.writes.length (s.writes.flatMap wcells)) (h4 : S b) (h5 : ∀ m, mo = some m → S m) (h6 : ∀ g, wv.ownBlock = some g → S g) (h7 : ∀ i, S i → i < w.heap.size) (h8 : mo.isSome = s.live) (hM0 : MapV w mo s.seen) (M : List Ob) (hM : MapV w' mo M) (hg : w.grownBy w' mo) : After w w' S b { s with seen := M } := by
  have hne : ∀ m, mo = some m → m ≠ b := fun m hm => by subst hm; exact mapIs_ne hM0 h1
  refine ⟨S, ⟨mo, wv, ?_, hM, row_block h3 fun g hg' hl => hg.block g hl fun e => ?_, h4, h5, h6, fun i hi => Nat.lt_of_lt_of_le (h7 i hi) hg.size, h8⟩, fun _ h => .inl h, Only.of_grown hg h5⟩
  · have hl := h1.lt
    unfold Has at h1 ⊢
    rw [hg.block b hl fun e => hne b e.symm rfl]; exact h1
  · subst e
    have h0 : MapIs w g s.seen := hM0
    obtain ⟨⟨es, clock, q1, _⟩, _⟩ := h0
    rcases h3.2 with ⟨rfl, _⟩ | ⟨g', cap, cur, rfl, _, h3', _⟩
    · simp [Value.ownBlock] at hg'
    · simp [Value.ownBlock] at hg'
      subst hg'
      rw [q1] at h3'; cases h3'
set_option maxRecDepth 20000 in
theorem set_del {w : World} {S : Nat → Prop} {b : Nat} {s : St} (h : IsSt w S b s) (n : ByteArray) (hn : n.size ≤ maxLen) : Calls Try.prog 51 #[ptr b, .string n, cv none] w fun e w' => e = .returned (.tuple #[]) ∧ After w w' S b { s with seen := drop n s.seen } := by
  have h' := h.below (boxed w (.cells #[.bool false, .string ⟨#[]⟩] 85))
  obtain ⟨mo, wv, h1, h2, h3, h4, h5, h6, h7, h8⟩ := h'
  obtain ⟨c0, c1, c2, c3, c4, c5, c6⟩ := scells_cell h1
  obtain ⟨w', hrun, r1, r2⟩ := h2.del hn 0
  have hA := hid ((After.grown h1 h3 h4 h5 h6 h7 h8 h2 _ r1 r2).front (boxed _ _))
  clear h h1 h2 h3 h4 h5 h6 h7 r1 r2
  unfold ptr cv
  go_enter Try.func51, Try.ntmps51
  go_wp2_with fail
  refine bodyPost_ret (results_none rfl _ _ _) rfl ?_
  exact ⟨rfl, hA.out⟩
/-- the world is that one -/
def AtW (W0 W : World) : Prop := W = W0
def setF (b m : Nat) (n d : ByteArray) (i : Nat) (v : Value) (_ : World) : Prop := match i with
  | 23 => v = ptr b
  | 24 => v = ptr b
  | 25 => v = ptr b
  | 26 => v = .map (some m)
  | 27 => v = .string n
  | 28 => v = cv (some d)
  | _ => True
set_option maxRecDepth 20000 in
theorem set_put {w : World} {S : Nat → Prop} {b : Nat} {s : St} (h : IsSt w S b s) (n d : ByteArray) (hn : n.size ≤ maxLen) (hl : s.seen.length < maxLen) : Calls Try.prog 51 #[ptr b, .string n, cv (some d)] w fun e w' => e = .returned (.tuple #[]) ∧ After w w' S b { s with seen := put (n, d) s.seen, live := true } := by
  have h' := h.below (boxed w (.cells #[.bool true, .string d] 85))
  have hbox : Has (w.alloc (.cells #[.bool true, .string d] 85)) w.heap.size #[.bool true, .string d] 85 := Has.new _ _ _ _ rfl
  obtain ⟨mo, wv, h1, h2, h3, h4, h5, h6, h7, h8⟩ := h'
  obtain ⟨c0, c1, c2, c3, c4, c5, c6⟩ := scells_cell h1
  have f0 := h1.frozen 0
  have hq := fun (w : World) (p : Option Nat) => run_eql_map_nil_sl (P := Try.prog) w 80 9 85 p Try.underlying80
  cases mo with
  | some m =>
    obtain ⟨w', hrun, r1, r2⟩ := MapIs.put (w := (w.alloc (.cells #[.bool true, .string d] 85)).drew) h2 hl hn d
    have hA := hid ((After.grown (w := (w.alloc (.cells #[.bool true, .string d] 85)).drew) h1 h3 h4 h5 h6 h7 h8 h2 _ (show MapV w' (some m) _ from r1) r2).front (boxed w (.cells #[.bool true, .string d] 85)).drew)
    have b0 := hbox.cell 0
    have b1 := hbox.cell 1
    have HL := hid (show s.live = true from h8.symm)
    clear h h1 h2 h3 h4 h5 h6 h7 h8 r1 r2
    rw [cv_some] at hrun ⊢
    unfold ptr
    go_enter Try.func51, Try.ntmps51
    go_wp2_with fail
    refine Tl.wp_mix_lit (by kernel_rfl) 6 [23, 24, 25, 26, 27, 28] 29 rfl (by kernel_rfl) (AtW (w.alloc (.cells #[.bool true, .string d] 85)).drew) (setF b m n d) rfl
      ⟨fun a' W' hC hF => ?_, fun a' W' hC hF => ?_, fun a' W' hC hF => ?_, fun a' W' hC hF => ?_, fun a' W' hC hF => ?_, fun a' W' hC hF => ?_, trivial⟩ ?_
    · exact Tl.sm_v 23 _ rfl (Tl.wanted_none rfl) hC rfl (rn_move rfl ((hF 0 (by decide +kernel)).2 (by decide)))
    · exact Tl.sm_v 24 _ rfl (Tl.wanted_none rfl) hC rfl (rn_nilCheck rfl ((hF 23 (by decide +kernel)).1 (by decide)))
    · exact Tl.sm_v 25 _ rfl (Tl.wanted_none rfl) hC rfl (rn_f63_0 rfl ((hF 24 (by decide +kernel)).1 (by decide)))
    · exact Tl.sm_v 26 _ rfl (Tl.wanted_none rfl) hC rfl (rn_load58 rfl ((hF 25 (by decide +kernel)).1 (by decide)) (by rw [show W' = _ from hC]; exact c0))
    · exact Tl.sm_v 27 _ rfl (Tl.wanted_none rfl) hC rfl (rn_move rfl ((hF 1 (by decide +kernel)).2 (by decide)))
    · exact Tl.sm_v 28 _ rfl (Tl.wanted_none rfl) hC rfl (rn_load67 rfl ((hF 5 (by decide +kernel)).2 (by decide)) (by rw [show W' = _ from hC]; exact b0) (by rw [show W' = _ from hC]; exact b1))
    intro v wB hw hv
    obtain rfl : wB = _ := hw
    have v26 : v 26 = .map (some m) := hv 26 (by decide)
    have v27 : v 27 = .string n := hv 27 (by decide)
    have v28 : v 28 = cv (some d) := hv 28 (by decide)
    simp only [Tl.fill, List.drop_succ_cons, List.drop_zero]
    simp only [Act.put, List.setIfInBounds_toArray, List.set_cons_succ, List.set_cons_zero, v26, v27, v28, cv_some]
    go_wp2_with fail
    go_end0
    have hA' := hA.out
    rw [HL.out] at hA'
    exact ⟨rfl, hA'⟩
  | none =>
    have hM : s.seen = [] := h2
    have hs : Hid (((w.alloc (.cells #[.bool true, .string d] 85)).alloc (.map #[] 0)).heap.size = w.heap.size + 2) := hid (by simp)
    have e1 : (w.alloc (.cells #[.bool true, .string d] 85)).heap.size = w.heap.size + 1 := by simp
    have k1 := h1.alloc (.map #[] 0)
    have k3 := h3.alloc (.map #[] 0)
    have kM : MapIs ((w.alloc (.cells #[.bool true, .string d] 85)).alloc (.map #[] 0)) (w.heap.size + 1) [] := by have := MapIs.made (w.alloc (.cells #[.bool true, .string d] 85)); rw [e1] at this; exact this
    have g1 : Has (((w.alloc (.cells #[.bool true, .string d] 85)).alloc (.map #[] 0)).setCell ⟨b, 0, none⟩ (.map (some (w.heap.size + 1)))) b (scells (some (w.heap.size + 1)) wv s) 83 := k1.set 0 _
    have g2 : MapV (((w.alloc (.cells #[.bool true, .string d] 85)).alloc (.map #[] 0)).setCell ⟨b, 0, none⟩ (.map (some (w.heap.size + 1)))) (some (w.heap.size + 1)) s.seen := by rw [hM]; exact MapV.setb (mo := some (w.heap.size + 1)) kM k1 0 _
    have g3 := row_setb k3 k1 (by decide) 0 (.map (some (w.heap.size + 1)))
    have g7 : ∀ i, S i ∨ i = w.heap.size + 1 → i < ((((w.alloc (.cells #[.bool true, .string d] 85)).alloc (.map #[] 0)).setCell ⟨b, 0, none⟩ (.map (some (w.heap.size + 1))))).heap.size := fun i hi => by
      have : ((((w.alloc (.cells #[.bool true, .string d] 85)).alloc (.map #[] 0)).setCell ⟨b, 0, none⟩ (.map (some (w.heap.size + 1))))).heap.size = w.heap.size + 2 := by simp [World.setCell]
      rw [this]
      rcases hi with hi | hi
      · have := h7 i hi; rw [e1] at this; omega
      · omega
    have bx : Only S w (((w.alloc (.cells #[.bool true, .string d] 85)).alloc (.map #[] 0)).setCell ⟨b, 0, none⟩ (.map (some (w.heap.size + 1)))) := ((Only.refl S w).alloc _).alloc _ |>.set (.inl h4) _
    obtain ⟨w', hrun, r1, r2⟩ := MapIs.put (w := (((w.alloc (.cells #[.bool true, .string d] 85)).alloc (.map #[] 0)).setCell ⟨b, 0, none⟩ (.map (some (w.heap.size + 1)))).drew) g2 hl hn d
    have hA := hid (After.trans (S := S) (S1 := fun i => S i ∨ i = w.heap.size + 1) (fun i hi => hi.imp id (fun h => by omega)) bx.drew (After.grown (s := { s with live := true }) (w := (((w.alloc (.cells #[.bool true, .string d] 85)).alloc (.map #[] 0)).setCell ⟨b, 0, none⟩ (.map (some (w.heap.size + 1)))).drew) g1 g3 (.inl h4) (fun m hm => by cases hm; exact .inr rfl) (fun g hg => .inl (h6 g hg)) g7 rfl g2 _ (show MapV w' (some _) _ from r1) r2))
    have hmm := @run_makeMap Try.prog
    have e0 := g1.cell 0
    have hb := (hbox.alloc (.map #[] 0)).other ⟨b, 0, none⟩ (.map (some (w.heap.size + 1))) (fun e => by have := h.lt; simp only at e; omega)
    have b0 := hb.cell 0
    have b1 := hb.cell 1
    have kc := k1.cell 0
    have kf := k1.frozen 0
    clear h h1 h2 h3 h4 h5 h6 h7 h8 r1 r2 g1 g2 g3 g7 bx k1 k3 kM hM hb hbox
    rw [cv_some] at hrun ⊢
    unfold ptr
    go_enter Try.func51, Try.ntmps51
    go_wp2_with fail
    refine Tl.wp_mix_lit (by kernel_rfl) 6 [23, 24, 25, 26, 27, 28] 29 rfl (by kernel_rfl) (AtW (((w.alloc (.cells #[.bool true, .string d] 85)).alloc (.map #[] 0)).setCell ⟨b, 0, none⟩ (.map (some (w.heap.size + 1)))).drew) (setF b (w.heap.size + 1) n d) rfl
      ⟨fun a' W' hC hF => ?_, fun a' W' hC hF => ?_, fun a' W' hC hF => ?_, fun a' W' hC hF => ?_, fun a' W' hC hF => ?_, fun a' W' hC hF => ?_, trivial⟩ ?_
    · exact Tl.sm_v 23 _ rfl (Tl.wanted_none rfl) hC rfl (rn_move rfl ((hF 0 (by decide +kernel)).2 (by decide)))
    · exact Tl.sm_v 24 _ rfl (Tl.wanted_none rfl) hC rfl (rn_nilCheck rfl ((hF 23 (by decide +kernel)).1 (by decide)))
    · exact Tl.sm_v 25 _ rfl (Tl.wanted_none rfl) hC rfl (rn_f63_0 rfl ((hF 24 (by decide +kernel)).1 (by decide)))
    · exact Tl.sm_v 26 _ rfl (Tl.wanted_none rfl) hC rfl (rn_load58 rfl ((hF 25 (by decide +kernel)).1 (by decide)) (by rw [show W' = _ from hC]; exact e0))
    · exact Tl.sm_v 27 _ rfl (Tl.wanted_none rfl) hC rfl (rn_move rfl ((hF 1 (by decide +kernel)).2 (by decide)))
    · exact Tl.sm_v 28 _ rfl (Tl.wanted_none rfl) hC rfl (rn_load67 rfl ((hF 5 (by decide +kernel)).2 (by decide)) (by rw [show W' = _ from hC]; exact b0) (by rw [show W' = _ from hC]; exact b1))
    intro v wB hw hv
    obtain rfl : wB = _ := hw
    have v26 : v 26 = .map (some (w.heap.size + 1)) := hv 26 (by decide)
    have v27 : v 27 = .string n := hv 27 (by decide)
    have v28 : v 28 = cv (some d) := hv 28 (by decide)
    simp only [Tl.fill, List.drop_succ_cons, List.drop_zero]
    simp only [Act.put, List.setIfInBounds_toArray, List.set_cons_succ, List.set_cons_zero, v26, v27, v28, cv_some]
    go_wp2_with fail
    go_end0
    exact ⟨rfl, hA.out⟩
theorem set_any {w : World} {S : Nat → Prop} {b : Nat} {s : St} (h : IsSt w S b s) (n : ByteArray) (c : Option ByteArray) (hn : n.size ≤ maxLen) (hl : s.seen.length < maxLen) : Calls Try.prog 51 #[ptr b, .string n, cv c] w fun e w' => e = .returned (.tuple #[]) ∧ After w w' S b { s with seen := setC n c s.seen, live := s.live || c.isSome } := by
  cases c with
  | none => simpa [setC] using set_del h n hn
  | some d => simpa [setC] using set_put h n d hn hl
end Go.Proofs.Ytgdiaflikfdnaaa
