/- The contract of set. -/
import Derived.Test.YtmpgfpmkmgebdaaGreatDoorWOps
namespace Go.Proofs.YtmpgfpmkmgebdaaGreatDoor.W
open Go.RowKit Go.Maps
/-- something is set in the map that the store has -/
theorem After.grown {w w' : World} {S : Nat → Prop} {b : Nat} {s : St} {mo : Option Nat} {wv : Value} (h1 : Has w b (scells mo wv s) 103) (h3 : w.ownsRow 0 122 5 wv s.writes.length (s.writes.flatMap wcells)) (h4 : S b) (h5 : ∀ m, mo = some m → S m) (h6 : ∀ g, wv.ownBlock = some g → S g) (h7 : ∀ i, S i → i < w.heap.size) (h8 : mo.isSome = s.live) (hM0 : MapV w mo s.seen) (M : List Ob) (hM : MapV w' mo M) (hg : w.grownBy w' mo) : After w w' S b { s with seen := M } := by
  have hne : ∀ m, mo = some m → m ≠ b := fun m hm => by subst hm; exact mapIs_ne hM0 h1
  refine ⟨S, ⟨mo, wv, ?_, hM, row_block h3 fun g hg' hl => hg.block g hl fun e => ?_, h4, h5, h6, fun i hi => Nat.lt_of_lt_of_le (h7 i hi) hg.size, h8⟩, fun _ h => .inl h, Only.of_grown hg h5⟩
  · have hl := h1.lt
    unfold Has at h1 ⊢
    rw [hg.block b hl fun e => hne b e.symm rfl]; exact h1
  · subst e
    have h0 : MapIs w g s.seen := hM0
    obtain ⟨⟨es, clock, q1, _⟩, _⟩ := h0
    rcases h3.2 with ⟨rfl, _⟩ | ⟨g', cap, cur, rfl, _, h3', _⟩
    · simp [Value.ownBlock] at hg'
    · simp [Value.ownBlock] at hg'
      subst hg'
      rw [q1] at h3'; cases h3'
set_option maxRecDepth 20000 in
theorem set_del {w : World} {S : Nat → Prop} {b : Nat} {s : St} (h : IsSt w S b s) (n : ByteArray) (hn : n.size ≤ maxLen) : Calls Tryz.prog 56 #[ptr b, .string n, cv none] w fun e w' => e = .returned (.tuple #[]) ∧ After w w' S b { s with seen := drop n s.seen } := by
  have h' := h.below (boxed w (.cells #[.bool false, .string ⟨#[]⟩] 120))
  obtain ⟨mo, wv, h1, h2, h3, h4, h5, h6, h7, h8⟩ := h'
  obtain ⟨c0, c1, c2, c3, c4, c5, c6⟩ := scells_cell h1
  obtain ⟨w', hrun, r1, r2⟩ := h2.del hn 0
  have hA := hid ((After.grown h1 h3 h4 h5 h6 h7 h8 h2 _ r1 r2).front (boxed _ _))
  clear h h1 h2 h3 h4 h5 h6 h7 r1 r2
  unfold ptr cv
  go_enter Tryz.func56, Tryz.ntmps56
  go_wp2_with fail
  refine bodyPost_ret (results_none rfl _ _ _) rfl ?_
  exact ⟨rfl, hA.out⟩
/-- the world is that one -/
def AtW (W0 W : World) : Prop := W = W0
def setF (b m : Nat) (n d : ByteArray) (i : Nat) (v : Value) (_ : World) : Prop := match i with
  | 23 => v = ptr b
  | 24 => v = ptr b
  | 25 => v = ptr b
  | 26 => v = .map (some m)
  | 27 => v = .string n
  | 28 => v = cv (some d)
  | _ => True
set_option maxRecDepth 20000 in
theorem set_put {w : World} {S : Nat → Prop} {b : Nat} {s : St} (h : IsSt w S b s) (n d : ByteArray) (hn : n.size ≤ maxLen) (hl : s.seen.length < maxLen) : Calls Tryz.prog 56 #[ptr b, .string n, cv (some d)] w fun e w' => e = .returned (.tuple #[]) ∧ After w w' S b { s with seen := put (n, d) s.seen, live := true } := by
  have h' := h.below (boxed w (.cells #[.bool true, .string d] 120))
  have hbox : Has (w.alloc (.cells #[.bool true, .string d] 120)) w.heap.size #[.bool true, .string d] 120 := Has.new _ _ _ _ rfl
  obtain ⟨mo, wv, h1, h2, h3, h4, h5, h6, h7, h8⟩ := h'
  obtain ⟨c0, c1, c2, c3, c4, c5, c6⟩ := scells_cell h1
  have f0 := h1.frozen 0
  have hq := fun (w : World) (p : Option Nat) => run_eql_map_nil_sl (P := Tryz.prog) w 98 9 120 p Tryz.underlying98
  cases mo with
  | some m =>
    obtain ⟨w', hrun, r1, r2⟩ := MapIs.put (w := (w.alloc (.cells #[.bool true, .string d] 120)).drew) h2 hl hn d
    have hA := hid ((After.grown (w := (w.alloc (.cells #[.bool true, .string d] 120)).drew) h1 h3 h4 h5 h6 h7 h8 h2 _ (show MapV w' (some m) _ from r1) r2).front (boxed w (.cells #[.bool true, .string d] 120)).drew)
    have b0 := hbox.cell 0
    have b1 := hbox.cell 1
    have HL := hid (show s.live = true from h8.symm)
    clear h h1 h2 h3 h4 h5 h6 h7 h8 r1 r2
    rw [cv_some] at hrun ⊢
    unfold ptr
    go_enter Tryz.func56, Tryz.ntmps56
    go_wp2_with fail
    refine Tl.wp_mix_lit (by kernel_rfl) 6 [23, 24, 25, 26, 27, 28] 29 rfl (by kernel_rfl) (AtW (w.alloc (.cells #[.bool true, .string d] 120)).drew) (setF b m n d) rfl
      ⟨fun a' W' hC hF => ?_, fun a' W' hC hF => ?_, fun a' W' hC hF => ?_, fun a' W' hC hF => ?_, fun a' W' hC hF => ?_, fun a' W' hC hF => ?_, trivial⟩ ?_
    · exact Tl.sm_v 23 _ rfl (Tl.wanted_none rfl) hC rfl (rn_move rfl ((hF 0 (by decide +kernel)).2 (by decide)))
    · exact Tl.sm_v 24 _ rfl (Tl.wanted_none rfl) hC rfl (rn_nilCheck rfl ((hF 23 (by decide +kernel)).1 (by decide)))
    · exact Tl.sm_v 25 _ rfl (Tl.wanted_none rfl) hC rfl (rn_f63_0 rfl ((hF 24 (by decide +kernel)).1 (by decide)))
    · exact Tl.sm_v 26 _ rfl (Tl.wanted_none rfl) hC rfl (rn_load58 rfl ((hF 25 (by decide +kernel)).1 (by decide)) (by rw [show W' = _ from hC]; exact c0))
    · exact Tl.sm_v 27 _ rfl (Tl.wanted_none rfl) hC rfl (rn_move rfl ((hF 1 (by decide +kernel)).2 (by decide)))
    · exact Tl.sm_v 28 _ rfl (Tl.wanted_none rfl) hC rfl (rn_load67 rfl ((hF 5 (by decide +kernel)).2 (by decide)) (by rw [show W' = _ from hC]; exact b0) (by rw [show W' = _ from hC]; exact b1))
    intro v wB hw hv
    obtain rfl : wB = _ := hw
    have v26 : v 26 = .map (some m) := hv 26 (by decide)
    have v27 : v 27 = .string n := hv 27 (by decide)
    have v28 : v 28 = cv (some d) := hv 28 (by decide)
    simp only [Tl.fill, List.drop_succ_cons, List.drop_zero]
    simp only [Act.put, List.setIfInBounds_toArray, List.set_cons_succ, List.set_cons_zero, v26, v27, v28, cv_some]
    go_wp2_with fail
    go_end0
    have hA' := hA.out
    rw [HL.out] at hA'
    exact ⟨rfl, hA'⟩
  | none =>
    have hM : s.seen = [] := h2
    have hs : Hid (((w.alloc (.cells #[.bool true, .string d] 120)).alloc (.map #[] 0)).heap.size = w.heap.size + 2) := hid (by simp)
    have e1 : (w.alloc (.cells #[.bool true, .string d] 120)).heap.size = w.heap.size + 1 := by simp
    have k1 := h1.alloc (.map #[] 0)
    have k3 := h3.alloc (.map #[] 0)
    have kM : MapIs ((w.alloc (.cells #[.bool true, .string d] 120)).alloc (.map #[] 0)) (w.heap.size + 1) [] := by have := MapIs.made (w.alloc (.cells #[.bool true, .string d] 120)); rw [e1] at this; exact this
    have g1 : Has (((w.alloc (.cells #[.bool true, .string d] 120)).alloc (.map #[] 0)).setCell ⟨b, 0, none⟩ (.map (some (w.heap.size + 1)))) b (scells (some (w.heap.size + 1)) wv s) 103 := k1.set 0 _
    have g2 : MapV (((w.alloc (.cells #[.bool true, .string d] 120)).alloc (.map #[] 0)).setCell ⟨b, 0, none⟩ (.map (some (w.heap.size + 1)))) (some (w.heap.size + 1)) s.seen := by rw [hM]; exact MapV.setb (mo := some (w.heap.size + 1)) kM k1 0 _
    have g3 := row_setb k3 k1 (by decide) 0 (.map (some (w.heap.size + 1)))
    have g7 : ∀ i, S i ∨ i = w.heap.size + 1 → i < ((((w.alloc (.cells #[.bool true, .string d] 120)).alloc (.map #[] 0)).setCell ⟨b, 0, none⟩ (.map (some (w.heap.size + 1))))).heap.size := fun i hi => by
      have : ((((w.alloc (.cells #[.bool true, .string d] 120)).alloc (.map #[] 0)).setCell ⟨b, 0, none⟩ (.map (some (w.heap.size + 1))))).heap.size = w.heap.size + 2 := by simp [World.setCell]
      rw [this]
      rcases hi with hi | hi
      · have := h7 i hi; rw [e1] at this; omega
      · omega
    have bx : Only S w (((w.alloc (.cells #[.bool true, .string d] 120)).alloc (.map #[] 0)).setCell ⟨b, 0, none⟩ (.map (some (w.heap.size + 1)))) := ((Only.refl S w).alloc _).alloc _ |>.set (.inl h4) _
    obtain ⟨w', hrun, r1, r2⟩ := MapIs.put (w := (((w.alloc (.cells #[.bool true, .string d] 120)).alloc (.map #[] 0)).setCell ⟨b, 0, none⟩ (.map (some (w.heap.size + 1)))).drew) g2 hl hn d
    have hA := hid (After.trans (S := S) (S1 := fun i => S i ∨ i = w.heap.size + 1) (fun i hi => hi.imp id (fun h => by omega)) bx.drew (After.grown (s := { s with live := true }) (w := (((w.alloc (.cells #[.bool true, .string d] 120)).alloc (.map #[] 0)).setCell ⟨b, 0, none⟩ (.map (some (w.heap.size + 1)))).drew) g1 g3 (.inl h4) (fun m hm => by cases hm; exact .inr rfl) (fun g hg => .inl (h6 g hg)) g7 rfl g2 _ (show MapV w' (some _) _ from r1) r2))
    have hmm := @run_makeMap Tryz.prog
    have e0 := g1.cell 0
    have hb := (hbox.alloc (.map #[] 0)).other ⟨b, 0, none⟩ (.map (some (w.heap.size + 1))) (fun e => by have := h.lt; simp only at e; omega)
    have b0 := hb.cell 0
    have b1 := hb.cell 1
    have kc := k1.cell 0
    have kf := k1.frozen 0
    clear h h1 h2 h3 h4 h5 h6 h7 h8 r1 r2 g1 g2 g3 g7 bx k1 k3 kM hM hb hbox
    rw [cv_some] at hrun ⊢
    unfold ptr
    go_enter Tryz.func56, Tryz.ntmps56
    go_wp2_with fail
    refine Tl.wp_mix_lit (by kernel_rfl) 6 [23, 24, 25, 26, 27, 28] 29 rfl (by kernel_rfl) (AtW (((w.alloc (.cells #[.bool true, .string d] 120)).alloc (.map #[] 0)).setCell ⟨b, 0, none⟩ (.map (some (w.heap.size + 1)))).drew) (setF b (w.heap.size + 1) n d) rfl
      ⟨fun a' W' hC hF => ?_, fun a' W' hC hF => ?_, fun a' W' hC hF => ?_, fun a' W' hC hF => ?_, fun a' W' hC hF => ?_, fun a' W' hC hF => ?_, trivial⟩ ?_
    · exact Tl.sm_v 23 _ rfl (Tl.wanted_none rfl) hC rfl (rn_move rfl ((hF 0 (by decide +kernel)).2 (by decide)))
    · exact Tl.sm_v 24 _ rfl (Tl.wanted_none rfl) hC rfl (rn_nilCheck rfl ((hF 23 (by decide +kernel)).1 (by decide)))
    · exact Tl.sm_v 25 _ rfl (Tl.wanted_none rfl) hC rfl (rn_f63_0 rfl ((hF 24 (by decide +kernel)).1 (by decide)))
    · exact Tl.sm_v 26 _ rfl (Tl.wanted_none rfl) hC rfl (rn_load58 rfl ((hF 25 (by decide +kernel)).1 (by decide)) (by rw [show W' = _ from hC]; exact e0))
    · exact Tl.sm_v 27 _ rfl (Tl.wanted_none rfl) hC rfl (rn_move rfl ((hF 1 (by decide +kernel)).2 (by decide)))
    · exact Tl.sm_v 28 _ rfl (Tl.wanted_none rfl) hC rfl (rn_load67 rfl ((hF 5 (by decide +kernel)).2 (by decide)) (by rw [show W' = _ from hC]; exact b0) (by rw [show W' = _ from hC]; exact b1))
    intro v wB hw hv
    obtain rfl : wB = _ := hw
    have v26 : v 26 = .map (some (w.heap.size + 1)) := hv 26 (by decide)
    have v27 : v 27 = .string n := hv 27 (by decide)
    have v28 : v 28 = cv (some d) := hv 28 (by decide)
    simp only [Tl.fill, List.drop_succ_cons, List.drop_zero]
    simp only [Act.put, List.setIfInBounds_toArray, List.set_cons_succ, List.set_cons_zero, v26, v27, v28, cv_some]
    go_wp2_with fail
    go_end0
    exact ⟨rfl, hA.out⟩
theorem set_any {w : World} {S : Nat → Prop} {b : Nat} {s : St} (h : IsSt w S b s) (n : ByteArray) (c : Option ByteArray) (hn : n.size ≤ maxLen) (hl : s.seen.length < maxLen) : Calls Tryz.prog 56 #[ptr b, .string n, cv c] w fun e w' => e = .returned (.tuple #[]) ∧ After w w' S b { s with seen := setC n c s.seen, live := s.live || c.isSome } := by
  cases c with
  | none => simpa [setC] using set_del h n hn
  | some d => simpa [setC] using set_put h n d hn hl
end Go.Proofs.YtmpgfpmkmgebdaaGreatDoor.W
/- The contracts of Get, names, List. -/
namespace Go.Proofs.YtmpgfpmkmgebdaaGreatDoor.W
open Go.RowKit Go.Maps Go.Sort
def get (s : St) (n : ByteArray) : ByteArray × Int := if s.down then (⟨#[]⟩, 51) else match look n s.seen with
  | none => (⟨#[]⟩, 5)
  | some d => (d, 0)
set_option maxRecDepth 20000 in
theorem get_any {w : World} {S : Nat → Prop} {b : Nat} {s : St} (h : IsSt w S b s) (n : ByteArray) (hn : n.size ≤ maxLen) : Calls Tryz.prog 76 #[ptr b, .string n] w fun e w' => e = .returned (.tuple #[.string (get s n).1, er (get s n).2]) ∧ Below w.heap.size w w' := by
  obtain ⟨mo, wv, ⟨c0, c1, c2, c3, c4, c5, c6⟩, hM, _, _⟩ := h.cells
  have hl := hM.look hn false
  clear h hM
  unfold get er ptr
  cases hd : s.down with
  | true =>
    rw [hd] at c2
    clear hd hl
    go_enter Tryz.func76, Tryz.ntmps76
    go_wp2_with fail
    go_ret2
    exact ⟨rfl, Below.refl _ _⟩
  | false =>
    rw [hd] at c2
    clear hd
    cases hk : look n s.seen with
    | none =>
      rw [hk, cv_none] at hl
      simp only [Bool.false_eq_true, if_false] at hl
      clear hk
      go_enter Tryz.func76, Tryz.ntmps76
      go_wp2_with fail
      go_ret2
      exact ⟨rfl, boxed _ _⟩
    | some d =>
      rw [hk, cv_some] at hl
      simp only [Bool.false_eq_true, if_false] at hl
      clear hk
      go_enter Tryz.func76, Tryz.ntmps76
      go_wp2_with fail
      go_ret2
      exact ⟨rfl, boxed _ _⟩
/-- the names, as a slice's cells -/
def nameCells (M : List Ob) : List Value := M.map fun p => .string p.1
theorem sorted_names {M : List Ob} (h : Rising M) {ss : List (List UInt8)} (hp : ss.Perm (strKeys (DM M))) : (ss.mergeSort (fun x y => decide (x ≤ y))).map encStr = nameCells M := by
  have e1 : strKeys (DM M) = M.map fun p => p.1.data.toList := by
    show (M.map ent).map _ = _
    rw [List.map_map]; rfl
  have e2 : ss.mergeSort (fun x y => decide (x ≤ y)) = (M.map fun p => p.1.data.toList).mergeSort (fun x y => decide (x ≤ y)) := by
    have := mergeSort_of_perm (hp.trans (by rw [e1]))
    exact this
  have e3 : (M.map fun p => p.1.data.toList).mergeSort (fun x y => decide (x ≤ y)) = M.map fun p => p.1.data.toList := by
    refine List.mergeSort_of_pairwise (List.pairwise_map.2 (h.imp fun {p q} hpq => ?_))
    simp only [lt, decide_eq_true_eq] at hpq ⊢
    exact List.le_of_lt hpq
  rw [e2, e3, List.map_map]
  rfl
set_option maxHeartbeats 1000000 in
set_option maxRecDepth 20000 in
theorem names_any {w : World} {S : Nat → Prop} {b : Nat} {s : St} (h : IsSt w S b s) (hs : s.seen.length ≤ 1000000) : Calls Tryz.prog 86 #[ptr b] w fun e w' => ∃ v, e = .returned v ∧ w'.ownsRow w.heap.size 9 1 v s.seen.length (nameCells s.seen) ∧ Below w.heap.size w w' := by
  obtain ⟨mo, wv, ⟨c0, c1, c2, c3, c4, c5, c6⟩, hM, _, _⟩ := h.cells
  have hR := hid hM.rising
  clear h
  unfold ptr
  refine (callsIn_wide (n := 6)).1 ?_
  have hfK : Fence.wide.fn 110 := trivial
  have hfS : Fence.wide.fn 109 := trivial
  refine callsIn_of_wp Tryz.func86 rfl trivial ?_ rfl
  simp only [Tryz.ntmps86, List.size_toArray, List.length_cons, List.length_nil, Nat.reduceAdd, Nat.reduceSub, Array.replicate_succ, Array.replicate_zero, List.push_toArray, List.append_toArray, List.nil_append, List.cons_append]
  cases mo with
  | none =>
    have hM' : s.seen = [] := hM
    have HM := hid hM'
    clear hM hM'
    gi_wp2_with (first
      | (gi_at_call 110; refine (Tryz.maps_Keys_75 _ _).mono ?_; rintro e w' ⟨rfl, rfl⟩)
      | (gi_at_call 109; refine (Tryz.slices_Sorted_keys_nil_74_75 w).mono ?_; rintro e w' ⟨v, ss, rfl, hS, hrow, hnil, hb⟩))
    go_ret
    refine ⟨v, rfl, ?_, ((Below.refl _ w).alloc (Nat.le_refl _) _).trans (hb.mono (by simp))⟩
    rw [HM.out]
    subst hS
    have hrow' : w'.ownsRow (w.alloc (Obj.cells #[Value.map none] 98)).heap.size 9 1 v 0 [] := by simpa using hrow
    exact ownsRow_base_a hrow' (by simp)
  | some m =>
    have hown := hM.1
    have hsz : Maps.size (DM s.seen) = s.seen.length := DM_size _
    have hmax : Maps.size (DM s.seen) ≤ maxLen := by rw [hsz]; unfold maxLen; omega
    have hbytes : Maps.size (DM s.seen) * 16 ≤ 140737488355328 := by rw [hsz]; omega
    have HS := hid hs
    have HZ := hid hsz
    clear hM hsz hs
    gi_wp2_with (first
      | (gi_at_call 110; refine (Tryz.maps_Keys_75 _ _).mono ?_; rintro e w' ⟨rfl, rfl⟩)
      | (gi_at_call 109; refine (Tryz.slices_Sorted_keys_74_75 m _ (DM s.seen) contR w hown hmax hbytes).mono ?_; rintro e w' ⟨v, ss, rfl, hS, hrow, hnil, hb⟩))
    go_ret
    refine ⟨v, rfl, ?_, ((Below.refl _ w).alloc (Nat.le_refl _) _).trans (hb.mono (by simp))⟩
    have e1 := sorted_names hR.out hS
    have e2 : ss.length = s.seen.length := by
      have := congrArg List.length e1
      simpa [nameCells] using this
    rw [e1, e2] at hrow
    exact ownsRow_base_a hrow (by simp)
end Go.Proofs.YtmpgfpmkmgebdaaGreatDoor.W
/- Rows that a call makes by append, their elements of one cell or more. -/
namespace Go.Proofs.YtmpgfpmkmgebdaaGreatDoor.W
open Go.RowKit Go.Maps
/-- what is known of an element's type -/
structure El (T e : TypeId) (size : Nat) : Prop where
  un : Tryz.prog.underlying T = some (.slice e)
  info : ∃ i z bytes, Tryz.prog.info? e = some i ∧ i.zero = some z ∧ i.size = size ∧ i.bytes = bytes ∧ z.cells.size = size ∧ bytes ≤ 1000
  pos : 0 < size
theorem el_of {T e : TypeId} {size bytes : Nat} {z : Value} (hu : Tryz.prog.underlying T = some (.slice e)) (h : (Tryz.prog.info? e).map (fun i => (i.zero, i.size, i.bytes)) = some (some z, size, bytes)) (hz : z.cells.size = size) (hb : bytes ≤ 1000) (hp : 0 < size) : El T e size := by
  obtain ⟨i, h1, h2, h3, h4⟩ := info_parts h
  exact ⟨hu, ⟨i, z, bytes, h1, h2, h3, h4, hz, hb⟩, hp⟩
theorem el28 : El 78 131 2 := el_of (z := .agg #[.string ⟨#[]⟩, .string ⟨#[]⟩]) (bytes := 32) Tryz.underlying78 (by kernel_rfl) rfl (by decide) (by decide)
theorem el9 : El 38 9 1 := el_of (z := .string ⟨#[]⟩) (bytes := 16) Tryz.underlying38 (by kernel_rfl) rfl (by decide) (by decide)
theorem el83 : El 99 122 5 := el_of (z := .agg #[.string ⟨#[]⟩, .bool false, .string ⟨#[]⟩, .bool false, .string ⟨#[]⟩]) (bytes := 64) Tryz.underlying99 (by kernel_rfl) rfl (by decide) (by decide)
theorem run_app2 {T e : TypeId} {size : Nat} (E : El T e size) (w : World) (ty : TypeId) (base : Nat) (v : Value) (n : Nat) (xs : List Value) (hown : w.ownsRow base e size v n xs) (ad : Addr) (m c : Nat) (news : List Value) (hm : 0 < m) (hl : news.length = m * size) (hnews : ∀ j u, news[j]? = some u → w.cell? (ad.add j) = some u) (h1 : ∀ u ∈ news, u.oneCell' = true) (hb : n + m ≤ 100000000) (hbase : base ≤ w.heap.size) :
    ∃ g cap w', (Builtin.append_ #[T, T] ty #[v, .slice (some ad) m c]).run Tryz.prog w = .ok (.slice (some ⟨g, 0, none⟩) (n + m) cap) w' ∧ w'.ownsRow base e size (.slice (some ⟨g, 0, none⟩) (n + m) cap) (n + m) (xs ++ news) ∧ w.grownBy w' v.ownBlock ∧ w'.ownsRow base e size v n xs ∧ (v.ownBlock = some g ∨ w.heap.size ≤ g) := by
  obtain ⟨i, z, bytes, i1, i2, i3, i4, i5, i6⟩ := E.info
  have hbytes : (n + m) * bytes ≤ 140737488355328 := by
    have : (n + m) * bytes ≤ 100000000 * 1000 := Nat.mul_le_mul hb i6
    omega
  have h63 : n + m ≤ maxLen := by unfold maxLen; omega
  subst i3
  subst i4
  have hlen : (xs ++ news).length = (n + m) * i.size := by rw [List.length_append, hown.1, hl, Nat.add_mul]
  have grown : ∀ (old : Nat), old < n + m → ∀ (row : Option Nat),
      (w.drew.alloc (.cells (xs.toArray ++ news.toArray ++ Builtin.zeroCells z.cells (grownCap w (n + m) old e - (n + m))) e)).ownsRow base e i.size
        (.slice (some ⟨w.heap.size, 0, none⟩) (n + m) (grownCap w (n + m) old e)) (n + m) (xs ++ news) ∧
      w.grownBy (w.drew.alloc (.cells (xs.toArray ++ news.toArray ++ Builtin.zeroCells z.cells (grownCap w (n + m) old e - (n + m))) e)) row := by
    intro old ho row
    have hge := grownCap_ge w (n + m) old e
    have hcm : grownCap w (n + m) old e ≤ maxLen := grownCap_le_maxLen w (n + m) old e h63
    refine ⟨⟨hlen, .inr ⟨w.heap.size, _, _, rfl, hbase, heap_alloc_new w.drew _, hge, hcm, ?_, ?_⟩⟩, ⟨rfl, rfl, rfl, by simp, fun k hk _ => Below.heap_alloc w.drew _ k hk⟩⟩
    · generalize grownCap w (n + m) old e = G at *
      rw [Array.size_append, Array.size_append, List.size_toArray, List.size_toArray, size_zeroCells, i5, hown.1, hl, ← Nat.add_mul, ← Nat.add_mul]
      have : n + m + (G - (n + m)) = G := by omega
      rw [this]
    · simp only [Array.toList_append, List.append_assoc]
      rw [← List.append_assoc, ← hlen]
      exact List.take_left
  have hkept : ∀ cur, (w.drew.alloc (.cells cur e)).ownsRow base e i.size v n xs := fun cur => World.ownsRow.alloc (w := w.drew) hown _
  rcases hown.2 with ⟨rfl, rfl⟩ | ⟨g, cap, cur, rfl, hbg, hg, hnc, hcm, hcs, htake⟩
  · have hx : xs = [] := List.eq_nil_of_length_eq_zero (by simpa using hown.1)
    subst hx
    have hr := run_append_nil (P := Tryz.prog) w T ty e i z E.un i1 i2 ad m c news hl hnews (by omega) (by omega) (by have hb := hbytes; simp only [Nat.zero_add] at hb; omega)
    have hgr := grown 0 (by omega) (Value.ownBlock (.slice none 0 0))
    simp only [Nat.zero_add, List.nil_append, Array.empty_append] at hgr ⊢
    exact ⟨_, _, _, hr, hgr.1, hgr.2, World.ownsRow_nil _ _ _ _, .inr (Nat.le_refl _)⟩
  · by_cases hroom : n + m ≤ cap
    · have hfit : n * i.size + news.length ≤ cur.size := by rw [hl, hcs, ← Nat.add_mul]; exact Nat.mul_le_mul_right _ hroom
      have hr := run_append_room (P := Tryz.prog) w T ty e i E.un i1 g n cap cur hg ad m c news hl hnews h1 hroom hfit
      have hsz : (cur.toList.take (n * i.size) ++ news ++ cur.toList.drop (n * i.size + news.length)).length = cap * i.size := by
        simp only [List.length_append, List.length_take, List.length_drop, Array.length_toList]
        omega
      refine ⟨_, _, _, hr, ⟨hlen, .inr ⟨g, cap, _, rfl, hbg, setRow_heap w g cur _ e _ hg, hroom, hcm, ?_, ?_⟩⟩, ⟨rfl, rfl, rfl, by simp, fun k _ hk => setRow_other w g k _ (fun e => hk (by simp [Value.ownBlock, e]))⟩, ⟨hown.1, .inr ⟨g, cap, _, rfl, hbg, setRow_heap w g cur _ e _ hg, hnc, hcm, ?_, ?_⟩⟩, .inl rfl⟩
      · simpa using hsz
      · rw [htake, ← hlen]
        exact List.take_left
      · simpa using hsz
      · simp only []
        rw [htake, List.append_assoc, ← hown.1]
        exact List.take_left
    · have holds : ∀ j u, xs[j]? = some u → w.cell? ((⟨g, 0, none⟩ : Addr).add j) = some u := hown.cells (g := g) rfl
      have hr := run_append_grow (P := Tryz.prog) w T ty e i z E.un i1 i2 ⟨g, 0, none⟩ n cap xs hown.1 holds ad m c news hl hnews (by omega) (by omega) (growslice_fits (by omega) hbytes)
      have hgr := grown cap (by omega) (Value.ownBlock (.slice (some ⟨g, 0, none⟩) n cap))
      exact ⟨_, _, _, hr, hgr.1, hgr.2, hkept _, .inr (Nat.le_refl _)⟩
theorem run_app {T e : TypeId} {size : Nat} (E : El T e size) (w : World) (ty : TypeId) (base : Nat) (v : Value) (n : Nat) (xs : List Value) (hown : w.ownsRow base e size v n xs) (ad : Addr) (m c : Nat) (news : List Value) (hm : 0 < m) (hl : news.length = m * size) (hnews : ∀ j u, news[j]? = some u → w.cell? (ad.add j) = some u) (h1 : ∀ u ∈ news, u.oneCell' = true) (hb : n + m ≤ 100000000) (hbase : base ≤ w.heap.size) :
    ∃ g cap w', (Builtin.append_ #[T, T] ty #[v, .slice (some ad) m c]).run Tryz.prog w = .ok (.slice (some ⟨g, 0, none⟩) (n + m) cap) w' ∧ w'.ownsRow base e size (.slice (some ⟨g, 0, none⟩) (n + m) cap) (n + m) (xs ++ news) ∧ w.grownBy w' v.ownBlock := by
  obtain ⟨g, cap, w', r1, r2, r3, _⟩ := run_app2 E w ty base v n xs hown ad m c news hm hl hnews h1 hb hbase
  exact ⟨g, cap, w', r1, r2, r3⟩
/-- append, as an operation of the walk -/
theorem wpList_app {T e : TypeId} {size : Nat} (E : El T e size) {ops : Array Oper} {rest : List Oper} {o : Oper} {a : Act} {w : World} {Q : Exit → Act → World → Prop} (hgd : o.guard = none) (s x : Operand)
    (ho : o.op = .call { callee := .builtin .append, args := #[s, x], argTypes := #[T, T] }) (base : Nat) (v : Value) (n : Nat) (xs : List Value) (hs : a.eval s = v) (hown : w.ownsRow base e size v n xs) (ad : Addr) (m c : Nat) (news : List Value) (hx : a.eval x = .slice (some ad) m c) (hm : 0 < m) (hl : news.length = m * size) (hnews : ∀ j u, news[j]? = some u → w.cell? (ad.add j) = some u) (h1 : ∀ u ∈ news, u.oneCell' = true) (hb : n + m ≤ 100000000) (hbase : base ≤ w.heap.size)
    (h : ∀ g cap w', w'.ownsRow base e size (.slice (some ⟨g, 0, none⟩) (n + m) cap) (n + m) (xs ++ news) → w.grownBy w' v.ownBlock → wpList Tryz.prog ops Q rest (a.put o.dst (.slice (some ⟨g, 0, none⟩) (n + m) cap)) w') : wpList Tryz.prog ops Q (o :: rest) a w := by
  obtain ⟨g, cap, w', r1, r2, r3⟩ := run_app E w o.type base v n xs hown ad m c news hm hl hnews h1 hb hbase
  refine wpList_plain hgd fun K hK => ?_
  unfold Oper.wp execOp
  simp only [ho, resolve, invoke, builtin, Sem.run_bind, Sem.run_pure, Result.andThen_ok, List.map_toArray, List.map_cons, List.map_nil, hs, hx, r1]
  exact hK _ _ (h g cap w' r2 r3)
/-- the cells of a new block that a literal lays -/
theorem new_cells (w : World) (cs : List Value) (t : TypeId) : ∀ j u, cs[j]? = some u → (w.alloc (.cells cs.toArray t)).cell? ((⟨w.heap.size, 0, none⟩ : Addr).add j) = some u := by
  intro j u hu
  have e : (⟨w.heap.size, 0, none⟩ : Addr).add j = ⟨w.heap.size, j, none⟩ := by unfold Addr.add; split <;> simp_all
  rw [e, (Has.new w _ cs.toArray t rfl).cell j]
  simpa using hu
theorem row_form {w : World} {base k n : Nat} {e : TypeId} {v : Value} {xs : List Value} (h : w.ownsRow base e k v n xs) : (v = .slice none 0 0 ∧ n = 0 ∧ xs = []) ∨ ∃ g cap, v = .slice (some ⟨g, 0, none⟩) n cap ∧ g < w.heap.size ∧ base ≤ g ∧ n ≤ cap ∧ cap ≤ maxLen ∧ ∀ j u, xs[j]? = some u → w.cell? ⟨g, j, none⟩ = some u := by
  rcases h.2 with ⟨rfl, rfl⟩ | ⟨g, cap, cur, rfl, h2, h3, h4, h5, h6, h7⟩
  · refine .inl ⟨rfl, rfl, ?_⟩
    have := h.1
    simp at this; exact this
  · refine .inr ⟨g, cap, rfl, (Array.getElem?_eq_some_iff.1 h3).1, h2, h4, h5, fun j u hu => ?_⟩
    rw [cell_of_row w g j cur e (0, 0) h3]
    rw [← h7, List.getElem?_take] at hu
    split at hu
    · simpa using hu
    · cases hu
theorem row_below {w w' : World} {base k n : Nat} {e : TypeId} {v : Value} {xs : List Value} (h : w.ownsRow base e k v n xs) (hb : Below w.heap.size w w') : w'.ownsRow base e k v n xs := row_block h fun g _ hl => hb.block g hl
theorem row_base {w : World} {base base' k n : Nat} {e : TypeId} {v : Value} {xs : List Value} (h : w.ownsRow base e k v n xs) (hb : base' ≤ base) : w.ownsRow base' e k v n xs := by
  refine ⟨h.1, ?_⟩
  rcases h.2 with h2 | ⟨g, cap, cur, h2, h3, h4⟩
  · exact .inl h2
  · exact .inr ⟨g, cap, cur, h2, Nat.le_trans hb h3, h4⟩
theorem grown_below {w0 w w' : World} {B base k n : Nat} {e : TypeId} {v : Value} {xs : List Value} (hb : Below B w0 w) (h : w.ownsRow base e k v n xs) (hg : w.grownBy w' v.ownBlock) (hB : B ≤ base) (hs : B ≤ w.heap.size) : Below B w0 w' :=
  hb.grown hg hs fun j hj => Nat.le_trans hB (h.lt j hj).1
/-- objects, as a slice's cells -/
def objCells (M : List Ob) : List Value := M.flatMap fun p => [.string p.1, .string p.2]
theorem objCells_snoc (M : List Ob) (p : Ob) : objCells (M ++ [p]) = objCells M ++ [.string p.1, .string p.2] := by simp [objCells]
theorem nameCells_get (M : List Ob) (k : Nat) (p : Ob) (h : M[k]? = some p) : (nameCells M)[k]? = some (.string p.1) := by simp [nameCells, h]
theorem fld67 (w : World) (x : Bool) (d : ByteArray) : (Instr.field 120 (.agg #[.bool x, .string d]) 1).run Tryz.prog w = .ok (.string d) w := by kernel_rfl
set_option maxHeartbeats 1000000 in
set_option maxRecDepth 20000 in
theorem objects_any {w : World} {S : Nat → Prop} {b : Nat} {s : St} (h : IsSt w S b s) (hs : s.seen.length ≤ 1000000) : Calls Tryz.prog 63 #[ptr b] w fun e w' => ∃ v, e = .returned v ∧ w'.ownsRow w.heap.size 131 2 v s.seen.length (objCells s.seen) ∧ Below w.heap.size w w' := by
  have hN := names_any h hs
  have HI := hid h
  obtain ⟨mo, wv, ⟨c0, c1, c2, c3, c4, c5, c6⟩, hM, _, _⟩ := h.cells
  have HR := hid hM.rising
  have HW := hid (show ∀ p ∈ s.seen, p.1.size ≤ maxLen from by
    cases mo with
    | none => rw [show s.seen = [] from hM]; intro p hp; cases hp
    | some m => exact hM.2.2)
  clear h hM c0 c1 c2 c3 c4 c5 c6
  unfold ptr at *
  go_enter Tryz.func63, Tryz.ntmps63
  go_wp2_with fail
  refine hN.mono ?_
  rintro e w1 ⟨nv, rfl, hr, hb⟩
  generalize hM : s.seen = M at *
  generalize hn : M.length = n at *
  have HN := hid hn
  have HM := hid hM
  have H1 := hid hr
  have H2 := hid hb
  have form := row_form hr
  clear hr hb hN hn hM
  rcases form with ⟨rfl, rfl, hx⟩ | ⟨g, cap, rfl, hg, hg2, hg3, hg4, hc⟩
  · have HX := hid hx
    clear hx
    go_wp2_with fail
    refine wp_loop_rounds 1 ?_
    rw [rounds_succ]
    go_wp2_with fail
    go_ret
    have : M = [] := List.eq_nil_of_length_eq_zero HN.out
    refine ⟨.slice none 0 0, rfl, ?_, H2.out⟩
    rw [HM.out, this]
    exact World.ownsRow_nil _ _ _ _
  · have HC := hid hc
    clear hc
    go_wp2_with fail
    go_loopg [3, 11] n (fun gk s3 s11 wx => ∃ k : Nat, k + gk = n ∧ s11 = .int .i64 (k : Int) ∧ wx.ownsRow w1.heap.size 131 2 s3 k (objCells (M.take k)) ∧ Below w1.heap.size w1 wx)
    case atStart => exact ⟨0, by omega, rfl, World.ownsRow_nil _ _ _ _, Below.refl _ _⟩
    case round =>
      obtain ⟨k, hk, rfl, hrow, hbw⟩ := hrel
      have HB : Hid (Below w.heap.size w wr) := hid (H2.out.trans (hbw.mono H2.out.size))
      have HRow := hid hrow
      have HBw := hid hbw
      cases gk with
      | zero =>
        have q1 : ¬ ((k : Int) < (n : Int)) := by omega
        have hkn : k = n := by omega
        clear hrow hbw
        go_wp2_with fail
        go_ret
        have := HRow.out
        rw [hkn, List.take_of_length_le (by rw [HN.out]; exact Nat.le_refl _)] at this
        refine ⟨u3, rfl, ?_, HB.out⟩
        rw [HM.out, HN.out]
        exact row_base this H2.out.size
      | succ g1 =>
        have q1 : (k : Int) < (n : Int) := by omega
        have hk' : k < M.length := by rw [HN.out]; omega
        obtain ⟨p, hp⟩ : ∃ p, M[k]? = some p := ⟨_, List.getElem?_eq_getElem hk'⟩
        have hpm : p ∈ M := List.mem_of_getElem? hp
        have cn : wr.cell? ⟨g, k, none⟩ = some (.string p.1) := by rw [hbw.cell (p := ⟨g, k, none⟩) hg]; exact HC.out k _ (nameCells_get M k p hp)
        have hI := HI.out.below HB.out
        obtain ⟨mo, wv, ⟨c0, c1, c2, c3, c4, c5, c6⟩, hMV, _, _⟩ := hI.cells
        have hlk := hMV.look (HW.out p hpm) false
        rw [HM.out, (look_some HR.out).2 (show (p.1, p.2) ∈ M from hpm), cv_some] at hlk
        simp only [Bool.false_eq_true, if_false] at hlk
        have HT : Hid (objCells (M.take (k + 1)) = objCells (M.take k) ++ [.string p.1, .string p.2]) := hid (by
          rw [List.take_add_one, hp]; exact objCells_snoc _ _)
        have hz : w1.heap.size ≤ wr.heap.size := hbw.size
        have hfl := fun W => fld67 W true p.2
        clear hp hpm hI hMV hbw hk'
        go_wp2_with (at_builtin; refine wpList_app el28 rfl _ _ rfl w1.heap.size _ k _ rfl (hrow.alloc _) ⟨wr.heap.size, 0, none⟩ 1 1 [.string p.1, .string p.2] rfl (by decide) rfl (new_cells wr [.string p.1, .string p.2] 131) (by simp [Value.oneCell']) (by omega) (by simp; omega) ?_; intro g' cap' w' hr' hgr')
        go_roundg g1
        case measure => omega
        case rel =>
          refine ⟨k + 1, by omega, by first | rfl | simp, ?_, ?_⟩
          · rw [HT.out]; exact hr'
          · exact grown_below ((HBw.out).alloc hz _) (HRow.out.alloc _) hgr' (Nat.le_refl _) (by simp; omega)
end Go.Proofs.YtmpgfpmkmgebdaaGreatDoor.W
