/- The contract of Crash. -/
import Derived.Test.YtgdiaflikfdnaaaBack
namespace Go.Proofs.Ytgdiaflikfdnaaa
open Go.RowKit Go.Maps
/-- the store is s now, and lies where it lay -/
def Stay (w w' : World) (S : Nat → Prop) (b : Nat) (s : St) : Prop := IsSt w' S b s ∧ Only S w w'
theorem Stay.after {w w' : World} {S : Nat → Prop} {b : Nat} {s : St} (h : Stay w w' S b s) : After w w' S b s := ⟨S, h.1, fun _ h => .inl h, h.2⟩
theorem Stay.front {w w1 w2 : World} {S : Nat → Prop} {b : Nat} {s : St} (hb : Below w.heap.size w w1) (h : Stay w1 w2 S b s) : Stay w w2 S b s := ⟨h.1, (Only.of_below hb).trans h.2 fun _ h => .inl h⟩
theorem Stay.grown {w w' : World} {S : Nat → Prop} {b : Nat} {s : St} {mo : Option Nat} {wv : Value} (h1 : Has w b (scells mo wv s) 83) (h3 : w.ownsRow 0 96 5 wv s.writes.length (s.writes.flatMap wcells)) (h4 : S b) (h5 : ∀ m, mo = some m → S m) (h6 : ∀ g, wv.ownBlock = some g → S g) (h7 : ∀ i, S i → i < w.heap.size) (h8 : mo.isSome = s.live) (hM0 : MapV w mo s.seen) (M : List Ob) (hM : MapV w' mo M) (hg : w.grownBy w' mo) : Stay w w' S b { s with seen := M } := by
  have hne : ∀ m, mo = some m → m ≠ b := fun m hm => by subst hm; exact mapIs_ne hM0 h1
  refine ⟨⟨mo, wv, ?_, hM, row_block h3 fun g hg' hl => hg.block g hl fun e => ?_, h4, h5, h6, fun i hi => Nat.lt_of_lt_of_le (h7 i hi) hg.size, h8⟩, Only.of_grown hg h5⟩
  · have hl := h1.lt
    unfold Has at h1 ⊢
    rw [hg.block b hl fun e => hne b e.symm rfl]; exact h1
  · subst e
    have h0 : MapIs w g s.seen := hM0
    obtain ⟨⟨es, clock, q1, _⟩, _⟩ := h0
    rcases h3.2 with ⟨rfl, _⟩ | ⟨g', cap, cur, rfl, _, h3', _⟩
    · simp [Value.ownBlock] at hg'
    · simp [Value.ownBlock] at hg'
      subst hg'
      rw [q1] at h3'; cases h3'
set_option maxRecDepth 20000 in
theorem live_del {w : World} {S : Nat → Prop} {b : Nat} {s : St} (h : IsSt w S b s) (n : ByteArray) (hn : n.size ≤ maxLen) : Calls Try.prog 51 #[ptr b, .string n, cv none] w fun e w' => e = .returned (.tuple #[]) ∧ Stay w w' S b { s with seen := drop n s.seen } := by
  have h' := h.below (boxed w (.cells #[.bool false, .string ⟨#[]⟩] 85))
  obtain ⟨mo, wv, h1, h2, h3, h4, h5, h6, h7, h8⟩ := h'
  obtain ⟨c0, c1, c2, c3, c4, c5, c6⟩ := scells_cell h1
  obtain ⟨w', hrun, r1, r2⟩ := h2.del hn 0
  have hA := hid ((Stay.grown h1 h3 h4 h5 h6 h7 h8 h2 _ r1 r2).front (boxed _ _))
  clear h h1 h2 h3 h4 h5 h6 h7 h8 r1 r2
  unfold ptr cv
  go_enter Try.func51, Try.ntmps51
  go_wp2_with fail
  refine bodyPost_ret (results_none rfl _ _ _) rfl ?_
  exact ⟨rfl, hA.out⟩
set_option maxRecDepth 20000 in
theorem live_put {w : World} {S : Nat → Prop} {b : Nat} {s : St} (h : IsSt w S b s) (hlv : s.live = true) (n d : ByteArray) (hn : n.size ≤ maxLen) (hl : s.seen.length < maxLen) : Calls Try.prog 51 #[ptr b, .string n, cv (some d)] w fun e w' => e = .returned (.tuple #[]) ∧ Stay w w' S b { s with seen := put (n, d) s.seen } := by
  have h' := h.below (boxed w (.cells #[.bool true, .string d] 85))
  have hbox : Has (w.alloc (.cells #[.bool true, .string d] 85)) w.heap.size #[.bool true, .string d] 85 := Has.new _ _ _ _ rfl
  obtain ⟨mo, wv, h1, h2, h3, h4, h5, h6, h7, h8⟩ := h'
  obtain ⟨c0, c1, c2, c3, c4, c5, c6⟩ := scells_cell h1
  have f0 := h1.frozen 0
  have hq := fun (w : World) (p : Option Nat) => run_eql_map_nil_sl (P := Try.prog) w 80 9 85 p Try.underlying80
  cases mo with
  | some m =>
    obtain ⟨w', hrun, r1, r2⟩ := MapIs.put (w := (w.alloc (.cells #[.bool true, .string d] 85)).drew) h2 hl hn d
    have hA := hid ((Stay.grown (w := (w.alloc (.cells #[.bool true, .string d] 85)).drew) h1 h3 h4 h5 h6 h7 h8 h2 _ (show MapV w' (some m) _ from r1) r2).front (boxed w (.cells #[.bool true, .string d] 85)).drew)
    have b0 := hbox.cell 0
    have b1 := hbox.cell 1
    clear h h1 h2 h3 h4 h5 h6 h7 h8 r1 r2 hlv
    rw [cv_some] at hrun ⊢
    unfold ptr
    go_enter Try.func51, Try.ntmps51
    go_wp2_with fail
    refine Tl.wp_mix_lit (by kernel_rfl) 6 [23, 24, 25, 26, 27, 28] 29 rfl (by kernel_rfl) (AtW (w.alloc (.cells #[.bool true, .string d] 85)).drew) (setF b m n d) rfl
      ⟨fun a' W' hC hF => ?_, fun a' W' hC hF => ?_, fun a' W' hC hF => ?_, fun a' W' hC hF => ?_, fun a' W' hC hF => ?_, fun a' W' hC hF => ?_, trivial⟩ ?_
    · exact Tl.sm_v 23 _ rfl (Tl.wanted_none rfl) hC rfl (rn_move rfl ((hF 0 (by decide +kernel)).2 (by decide)))
    · exact Tl.sm_v 24 _ rfl (Tl.wanted_none rfl) hC rfl (rn_nilCheck rfl ((hF 23 (by decide +kernel)).1 (by decide)))
    · exact Tl.sm_v 25 _ rfl (Tl.wanted_none rfl) hC rfl (rn_f63_0 rfl ((hF 24 (by decide +kernel)).1 (by decide)))
    · exact Tl.sm_v 26 _ rfl (Tl.wanted_none rfl) hC rfl (rn_load58 rfl ((hF 25 (by decide +kernel)).1 (by decide)) (by rw [show W' = _ from hC]; exact c0))
    · exact Tl.sm_v 27 _ rfl (Tl.wanted_none rfl) hC rfl (rn_move rfl ((hF 1 (by decide +kernel)).2 (by decide)))
    · exact Tl.sm_v 28 _ rfl (Tl.wanted_none rfl) hC rfl (rn_load67 rfl ((hF 5 (by decide +kernel)).2 (by decide)) (by rw [show W' = _ from hC]; exact b0) (by rw [show W' = _ from hC]; exact b1))
    intro v wB hw hv
    obtain rfl : wB = _ := hw
    have v26 : v 26 = .map (some m) := hv 26 (by decide)
    have v27 : v 27 = .string n := hv 27 (by decide)
    have v28 : v 28 = cv (some d) := hv 28 (by decide)
    simp only [Tl.fill, List.drop_succ_cons, List.drop_zero]
    simp only [Act.put, List.setIfInBounds_toArray, List.set_cons_succ, List.set_cons_zero, v26, v27, v28, cv_some]
    go_wp2_with fail
    go_end0
    exact ⟨rfl, hA.out⟩
  | none => rw [hlv] at h8; cases h8
theorem live_any {w : World} {S : Nat → Prop} {b : Nat} {s : St} (h : IsSt w S b s) (hlv : s.live = true) (n : ByteArray) (c : Option ByteArray) (hn : n.size ≤ maxLen) (hl : s.seen.length < maxLen) : Calls Try.prog 51 #[ptr b, .string n, cv c] w fun e w' => e = .returned (.tuple #[]) ∧ Stay w w' S b { s with seen := setC n c s.seen } := by
  cases c with
  | none => exact live_del h n hn
  | some d => exact live_put h hlv n d hn hl
set_option maxRecDepth 20000 in
theorem settle_eq {w : World} {S : Nat → Prop} {b : Nat} {s : St} (h : IsSt w S b s) : Calls Try.prog 49 #[ptr b] w fun e w' => e = .returned (.tuple #[]) ∧ w' = w.setCell ⟨b, 1, none⟩ (.slice none 0 0) := by
  obtain ⟨mo, wv, h1, _⟩ := h
  obtain ⟨c0, c1, c2, c3, c4, c5, c6⟩ := scells_cell h1
  have f1 := h1.frozen 1
  clear h1
  unfold ptr
  go_enter Try.func49, Try.ntmps49
  go_wp2_with fail
  go_end0
  exact ⟨rfl, rfl⟩
/-- writes taken back, the last one first -/
def undo (M : List Ob) (l : List Wr) : List Ob := l.foldl (fun M q => setC q.name q.was M) M
/-- one that survives -/
def stepK (ws : List Wr) (ks : List Int) (M : List Ob) (i : Nat) : List Ob := match ws[i]?, ks[i]? with
  | some q, some k => if 0 ≤ k then setC q.name (begun q.now k.toNat) M else M
  | _, _ => M
def redo (ws : List Wr) (ks : List Int) (M : List Ob) (n : Nat) : List Ob := (List.range n).foldl (stepK ws ks) M
def crashS (s : St) (ks : List Int) : St := { s with writes := [], seen := redo s.writes ks (undo s.seen s.writes.reverse) s.writes.length }
theorem redo_succ (ws : List Wr) (ks : List Int) (M : List Ob) (n : Nat) : redo ws ks M (n + 1) = stepK ws ks (redo ws ks M n) n := by
  simp [redo, List.range_succ, List.foldl_append]
theorem undo_snoc (M : List Ob) (l : List Wr) (q : Wr) : undo M (l ++ [q]) = setC q.name q.was (undo M l) := by simp [undo, List.foldl_append]
theorem undo_le (l : List Wr) : ∀ (M : List Ob), (undo M l).length ≤ M.length + l.length := by
  induction l with
  | nil => intro M; exact Nat.le_refl _
  | cons q r ih =>
    intro M
    have h1 := ih (setC q.name q.was M)
    have h2 := length_setC_le q.name q.was M
    unfold undo at h1 ⊢
    rw [List.foldl_cons, List.length_cons]; omega
theorem redo_le (ws : List Wr) (ks : List Int) (M : List Ob) : ∀ n, (redo ws ks M n).length ≤ M.length + n
  | 0 => Nat.le_refl _
  | n + 1 => by
    rw [redo_succ]
    have := redo_le ws ks M n
    have h2 : (stepK ws ks (redo ws ks M n) n).length ≤ (redo ws ks M n).length + 1 := by
      unfold stepK
      split
      · split
        · exact length_setC_le _ _ _
        · omega
      · omega
    omega
/-- a list of numbers that can be read -/
def RdI (w : World) (v : Value) (ks : List Int) : Prop := (∃ A c, v = .slice A 0 c ∧ ks = []) ∨ ∃ g o cap, 0 < ks.length ∧ v = .slice (some ⟨g, o, none⟩) ks.length cap ∧ g < w.heap.size ∧ ∀ j z, ks[j]? = some z → w.cell? ⟨g, o + j, none⟩ = some (.int .i64 z)
end Go.Proofs.Ytgdiaflikfdnaaa
