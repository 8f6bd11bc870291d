/- The contract of try. -/
import Derived.Test.YtmpgfpmkmgebdaaGreatDoorWSize
namespace Go.Proofs.YtmpgfpmkmgebdaaGreatDoor.W
open Go.RowKit Go.Maps
/-- a write is tried -/
def tried (s : St) (n : ByteArray) (c : Option ByteArray) : Int × St := if (counted s).1 then (53, (counted s).2) else (0, { (counted s).2 with live := (counted s).2.live || c.isSome, seen := setC n c (counted s).2.seen, writes := (counted s).2.writes ++ [⟨n, look n (counted s).2.seen, c⟩] })
section
variable {ev : Operand → Value} {o : Oper} {w : World} {x y z : Operand}
theorem enter62 (args : Array Value) : (callFunc 23 args).run Tryz.prog w = .ok (.enter 23 args) w := by kernel_rfl
theorem rn_build83 {u : ByteArray} {c1 c2 : Option ByteArray} (ho : o.op = .build 122 #[(0, x), (1, y), (2, z)]) (hx : ev x = .string u) (hy : ev y = cv c1) (hz : ev z = cv c2) : (execOp ev o).run Tryz.prog w = .ok (.value (.agg (wcells ⟨u, c1, c2⟩).toArray)) w := by
  unfold cv at hy hz
  simp [execOp, ho, hx, hy, hz, go_sem, wcells]
theorem rn_bs59 {q : Wr} (ho : o.op = .buildSlice 99 1 #[(0, x)]) (hx : ev x = .agg (wcells q).toArray) : (execOp ev o).run Tryz.prog w = .ok (.value (.slice (some ⟨w.heap.size, 0, none⟩) 1 1)) (w.alloc (.cells (wcells q).toArray 122)) := by
  unfold wcells at hx ⊢
  simp [execOp, ho, hx, go_sem]
theorem rn_app59 {w' : World} {u v r : Value} (ho : o.op = .call { callee := .builtin .append, args := #[x, y], argTypes := #[99, 99] }) (hx : ev x = u) (hy : ev y = v) (hr : (Builtin.append_ #[99, 99] o.type #[u, v]).run Tryz.prog w = .ok r w') : (execOp ev o).run Tryz.prog w = .ok (.value r) w' := by
  unfold execOp
  simp only [ho, resolve, invoke, builtin, Sem.run_bind, Sem.run_pure, Result.andThen_ok, List.map_toArray, List.map_cons, List.map_nil, hx, hy, hr]
end
def tryG (B : Nat) (n d : ByteArray) (i : Nat) (v : Value) (_ : World) : Prop := match i with
  | 9 => v = .string n | 10 => v = .string n
  | 11 => v = .pointer (some ⟨B, 1, none⟩)
  | 12 => v = .string d | 13 => v = .string d
  | _ => True
/-- the row wv may have been appended to; nothing else of W0 has turned -/
def AppW (W0 : World) (wv : Value) (k : Nat) (xs : List Value) (W : World) : Prop := Only (fun i => wv.ownBlock = some i) W0 W ∧ W.ownsRow 0 122 5 wv k xs
theorem AppW.has {W0 W : World} {wv : Value} {k : Nat} {xs : List Value} (h : AppW W0 wv k xs W) {b : Nat} {cs : Array Value} {t : TypeId} (hb : Has W0 b cs t) (hne : ∀ g, wv.ownBlock = some g → g ≠ b) : Has W b cs t := h.1.has hb fun e => hne b e rfl
theorem map_row_ne {w : World} {mo : Option Nat} {M : List Ob} (h : MapV w mo M) {base k n : Nat} {e : TypeId} {wv : Value} {xs : List Value} (hr : w.ownsRow base e k wv n xs) : ∀ m, mo = some m → wv.ownBlock ≠ some m := by
  rintro m rfl hg
  obtain ⟨⟨es, clock, q1, _⟩, _⟩ := (h : MapIs w m M)
  rcases hr.2 with ⟨rfl, _⟩ | ⟨g', cap, cur, rfl, _, h3', _⟩
  · simp [Value.ownBlock] at hg
  · simp [Value.ownBlock] at hg
    subst hg
    rw [q1] at h3'; cases h3'
theorem AppW.map {W0 W : World} {wv : Value} {k : Nat} {xs : List Value} (h : AppW W0 wv k xs W) {mo : Option Nat} {M : List Ob} (hM : MapV W0 mo M) (hr : W0.ownsRow 0 122 5 wv k xs) : MapV W mo M :=
  hM.block fun m hm hl => h.1.block m hl fun e => map_row_ne hM hr m hm e
theorem AppW.alloc {W0 W : World} {wv : Value} {k : Nat} {xs : List Value} (h : AppW W0 wv k xs W) (o : Obj) : AppW W0 wv k xs (W.alloc o) := ⟨h.1.alloc o, h.2.alloc o⟩
def tryF (b _B : Nat) (mo : Option Nat) (wv : Value) (n : ByteArray) (c : Option ByteArray) (M : List Ob) (k : Nat) (xs : List Value) (Z : Nat) (i : Nat) (v : Value) (W : World) : Prop := match i with
  | 15 => v = ptr b | 16 => v = ptr b | 17 => v = ptr b | 21 => v = ptr b | 22 => v = ptr b | 23 => v = ptr b
  | 18 => v = .pointer (some ⟨b, 1, none⟩)
  | 19 => v = wv
  | 20 => v = .string n | 25 => v = .string n
  | 24 => v = .map mo
  | 26 => v = cv (look n M)
  | 27 => v = cv c
  | 28 => v = .agg (wcells ⟨n, look n M, c⟩).toArray
  | 29 => ∃ g, v = .slice (some ⟨g, 0, none⟩) 1 1 ∧ Z ≤ g ∧ Has W g (wcells ⟨n, look n M, c⟩).toArray 122
  | 30 => ∃ g cap, v = .slice (some ⟨g, 0, none⟩) (k + 1) cap ∧ W.ownsRow 0 122 5 (.slice (some ⟨g, 0, none⟩) (k + 1) cap) (k + 1) (xs ++ wcells ⟨n, look n M, c⟩) ∧ (wv.ownBlock = some g ∨ Z ≤ g)
  | _ => True
theorem tryF_turn {b B : Nat} {mo : Option Nat} {wv : Value} {n : ByteArray} {c : Option ByteArray} {M : List Ob} {k : Nat} {xs : List Value} {Z i : Nat} {v : Value} {W W' : World} (h : tryF b B mo wv n c M k xs Z i v W)
    (h29 : ∀ g, Z ≤ g → Has W g (wcells ⟨n, look n M, c⟩).toArray 122 → Has W' g (wcells ⟨n, look n M, c⟩).toArray 122)
    (h30 : i = 30 → ∀ g cap, W.ownsRow 0 122 5 (.slice (some ⟨g, 0, none⟩) (k + 1) cap) (k + 1) (xs ++ wcells ⟨n, look n M, c⟩) → W'.ownsRow 0 122 5 (.slice (some ⟨g, 0, none⟩) (k + 1) cap) (k + 1) (xs ++ wcells ⟨n, look n M, c⟩)) : tryF b B mo wv n c M k xs Z i v W' := by
  unfold tryF at h ⊢
  split at h
  all_goals first
    | exact h
    | (obtain ⟨g, e1, e2, e3⟩ := h; exact ⟨g, e1, e2, h29 g e2 e3⟩)
    | (obtain ⟨g, cap, e1, e2, e3⟩ := h; exact ⟨g, cap, e1, h30 rfl g cap e2, e3⟩)
theorem tryF_below {b B : Nat} {mo : Option Nat} {wv : Value} {n : ByteArray} {c : Option ByteArray} {M : List Ob} {k : Nat} {xs : List Value} {Z i : Nat} {v : Value} {W W' : World} (h : tryF b B mo wv n c M k xs Z i v W) (hb : Below W.heap.size W W') : tryF b B mo wv n c M k xs Z i v W' :=
  tryF_turn h (fun _ _ hh => hh.below hb hh.lt) fun _ _ _ hr => row_below hr hb
theorem tryF_app {b B : Nat} {mo : Option Nat} {wv : Value} {n : ByteArray} {c : Option ByteArray} {M : List Ob} {k : Nat} {xs : List Value} {Z i : Nat} {v : Value} {W W' : World} (h : tryF b B mo wv n c M k xs Z i v W) (hi : i ≠ 30) (hg : W.grownBy W' wv.ownBlock) (hz : ∀ g, wv.ownBlock = some g → g < Z) : tryF b B mo wv n c M k xs Z i v W' :=
  tryF_turn h (fun g hZ hh => by
    have hl := hh.lt
    unfold Has at hh ⊢
    rw [hg.block g hl fun e => by have := hz g e.symm; omega]; exact hh) fun e => absurd e hi
theorem has_add {W : World} {g : Nat} {cs : List Value} {t : TypeId} (h : Has W g cs.toArray t) : ∀ j u, cs[j]? = some u → W.cell? ((⟨g, 0, none⟩ : Addr).add j) = some u := by
  intro j u hu
  have e : (⟨g, 0, none⟩ : Addr).add j = ⟨g, j, none⟩ := by unfold Addr.add; split <;> simp_all
  rw [e, h.cell j]
  simpa using hu
theorem wcells_one (q : Wr) : ∀ u ∈ wcells q, u.oneCell' = true := by
  intro u hu
  simp [wcells] at hu
  rcases hu with rfl | rfl | rfl | rfl | rfl <;> rfl
/-- the row of writes is another one -/
theorem st_writes {w W : World} {S : Nat → Prop} {b : Nat} {s : St} {mo : Option Nat} {wv v : Value} {q : Wr} (h1 : Has w b (scells mo wv s) 103) (hM : MapV w mo s.seen) (hrow : w.ownsRow 0 122 5 wv s.writes.length (s.writes.flatMap wcells)) (h4 : S b) (h5 : ∀ m, mo = some m → S m) (h6 : ∀ g, wv.ownBlock = some g → S g) (h7 : ∀ i, S i → i < w.heap.size) (h8 : mo.isSome = s.live)
    (hO : Only (fun i => wv.ownBlock = some i) w W) (hr : W.ownsRow 0 122 5 v (s.writes.length + 1) (s.writes.flatMap wcells ++ wcells q)) (hv : ∀ g, v.ownBlock = some g → wv.ownBlock = some g ∨ w.heap.size ≤ g) : After w (W.setCell ⟨b, 1, none⟩ v) S b { s with writes := s.writes ++ [q] } := by
  have g1 : Has W b (scells mo wv s) 103 := hO.has h1 fun e => row_ne hrow h1 (by decide) b e rfl
  have g2 : MapV W mo s.seen := hM.block fun m hm hl => hO.block m hl fun e => map_row_ne hM hrow m hm e
  refine ⟨fun i => S i ∨ (w.heap.size ≤ i ∧ i < W.heap.size), ⟨mo, v, g1.set 1 v, g2.setb g1 _ _, ?_, .inl h4, fun m hm => .inl (h5 m hm), fun g hg => ?_, fun i hi => ?_, h8⟩, fun i hi => ?_, (hO.mono (fun i hi => h6 i hi)).set (.inl h4) _⟩
  · have e : (s.writes ++ [q]).flatMap wcells = s.writes.flatMap wcells ++ wcells q := by simp
    simp only [List.length_append, List.length_cons, List.length_nil, e]
    exact row_setb hr g1 (by decide) _ _
  · rcases hv g hg with h | h
    · exact .inl (h6 g h)
    · exact .inr ⟨h, (hr.lt g hg).2⟩
  · rcases hi with hi | hi
    · have := h7 i hi; have := hO.size; simp [World.setCell]; omega
    · simp [World.setCell]; exact hi.2
  · exact hi.imp id fun h => h.1
set_option maxHeartbeats 4000000 in
set_option maxRecDepth 20000 in
theorem try_any {w : World} {S : Nat → Prop} {b : Nat} {s : St} (h : IsSt w S b s) (hf : ∀ k, s.refuse = some k → k < 9223372036854775808) (hs : s.seen.length ≤ 1000000) (hws : s.writes.length ≤ 1000000) (n : ByteArray) (c : Option ByteArray) (hn : n.size ≤ 1000000) (hc : (c.getD ⟨#[]⟩).size ≤ 1000000) : Calls Tryz.prog 117 #[ptr b, .string n, cv c] w fun e w' => e = .returned (er (tried s n c).1) ∧ After w w' S b (tried s n c).2 := by
  have hnl : n.size ≤ maxLen := by unfold maxLen; omega
  have hsS : (counted s).2.seen.length ≤ 1000000 ∧ (counted s).2.writes.length ≤ 1000000 := by
    unfold counted
    cases s.refuse with
    | none => exact ⟨hs, hws⟩
    | some k => cases k <;> exact ⟨hs, hws⟩
  have HS7 : Hid (∀ i, S i → i < w.heap.size) := hid (by obtain ⟨_, _, _, _, _, _, _, _, h7, _⟩ := h; exact h7)
  have hbox : Has (w.alloc (.cells #[.bool c.isSome, .string (c.getD ⟨#[]⟩)] 120)) w.heap.size #[.bool c.isSome, .string (c.getD ⟨#[]⟩)] 120 := Has.new _ _ _ _ rfl
  have hR := refuses_any (h.below (boxed w (.cells #[.bool c.isSome, .string (c.getD ⟨#[]⟩)] 120))) hf
  have HB := hid (boxed w (.cells #[.bool c.isSome, .string (c.getD ⟨#[]⟩)] 120))
  clear h hs hws hf
  unfold tried er
  generalize hs1 : (counted s).2 = s1 at *
  generalize hr1 : (counted s).1 = r1 at *
  clear hs1 hr1
  obtain ⟨hsn, hsw⟩ := hsS
  unfold ptr at hR
  unfold cv ptr
  go_enter Tryz.func117, Tryz.ntmps117
  go_wp2_with fail
  refine hR.mono ?_
  rintro e w1 ⟨rfl, S1, g1, g2, g3⟩
  have hbx1 : Has w1 w.heap.size #[.bool c.isSome, .string (c.getD ⟨#[]⟩)] 120 := g3.has hbox fun hS => by have := HS7.out _ hS; omega
  have O1 : Hid (Only S w w1) := hid ((Only.of_below HB.out).trans g3 fun _ h => .inl h)
  have G2 : Hid (∀ i, S1 i → S i ∨ w.heap.size + 1 ≤ i) := hid fun i hi => (g2 i hi).imp id fun h => by simpa using h
  clear hR g2 g3 hbox HB
  have G1 := hid g1
  have HX := hid hbx1
  have x1 : w1.cell? ⟨w.heap.size, 1, none⟩ = some (.string (c.getD ⟨#[]⟩)) := hbx1.cell 1
  have hbl : w.heap.size < w1.drew.heap.size := hbx1.lt
  clear g1 hbx1
  cases r1 with
  | true =>
    go_wp2_with fail
    go_ret
    exact ⟨rfl, ⟨S1, G1.out, fun i hi => (G2.out i hi).imp id (by omega), O1.out⟩⟩
  | false =>
    generalize hdv : c.getD ⟨#[]⟩ = d at *
    have HDV := hid hdv
    clear hdv
    go_wp2_with fail
    refine Tl.wp_mix_lit (by kernel_rfl) 5 [9, 10, 11, 12, 13] 37 rfl (by kernel_rfl) (BelW w1.drew) (tryG w.heap.size n d) (Below.refl _ _)
      ⟨fun a' W' hC hF => ?_, fun a' W' hC hF => ?_, fun a' W' hC hF => ?_, fun a' W' hC hF => ?_, fun a' W' hC hF => ?_, trivial⟩ ?_
    · exact Tl.sm_v 9 _ rfl (Tl.wanted_none rfl) hC rfl (rn_move rfl ((hF 1 (by decide +kernel)).2 (by decide)))
    · refine Tl.sm_call 23 #[.string n] (Tl.wanted_none rfl) (rn_call1 rfl rfl ((hF 9 (by decide +kernel)).1 (by decide)) (enter62 _)) ((clone_any n W' (by omega)).mono ?_)
      rintro e w'' ⟨rfl, b1⟩
      exact ⟨_, rfl, Below.trans hC (b1.mono hC.size), fun _ _ _ h => h, fun d hd => by cases hd; rfl⟩
    · exact Tl.sm_v 11 _ rfl (Tl.wanted_none rfl) hC rfl (rn_f67_1 rfl ((hF 5 (by decide +kernel)).2 (by decide)))
    · exact Tl.sm_v 12 _ rfl (Tl.wanted_none rfl) hC rfl (rn_load9 rfl ((hF 11 (by decide +kernel)).1 (by decide)) (hC.cell (p := ⟨w.heap.size, 1, none⟩) hbl x1))
    · refine Tl.sm_call 23 #[.string d] (Tl.wanted_none rfl) (rn_call1 rfl rfl ((hF 12 (by decide +kernel)).1 (by decide)) (enter62 _)) ((clone_any d W' (by omega)).mono ?_)
      rintro e w'' ⟨rfl, b1⟩
      exact ⟨_, rfl, Below.trans hC (b1.mono hC.size), fun _ _ _ h => h, fun d hd => by cases hd; rfl⟩
    intro v w2 hw2 hv
    have v10 : v 10 = .string n := hv 10 (by decide)
    have v13 : v 13 = .string d := hv 13 (by decide)
    have hx2 : Has w2 w.heap.size #[.bool c.isSome, .string d] 120 := HX.out.drew.below hw2 hbl
    have hx3 := hid (show Has (w2.setCell ⟨w.heap.size, 1, none⟩ (.string d)) w.heap.size #[.bool c.isSome, .string d] 120 from hx2.set 1 _)
    have g3 := hid ((IsSt.below G1.out.drew hw2).only ((Only.refl (fun i => i = w.heap.size) w2).set (p := ⟨w.heap.size, 1, none⟩) (.inl rfl) (.string d)) fun i hi e => by
      rcases G2.out i hi with h | h
      · have := HS7.out i h; omega
      · omega)
    have O3 : Hid (Only S w (w2.setCell ⟨w.heap.size, 1, none⟩ (.string d))) := hid ((O1.out.drew.next hw2).set (.inr (Nat.le_refl _)) _)
    obtain ⟨k0, k1, k2, k3⟩ := two_cells hx2
    have hs3 : Hid (w.heap.size + 1 ≤ (w2.setCell ⟨w.heap.size, 1, none⟩ (.string d)).heap.size) := hid hx3.out.lt
    clear hv hw2 HX x1 hbl G1 hx2 O1
    simp only [Tl.fill, List.drop_succ_cons, List.drop_zero]
    simp only [Act.put, List.setIfInBounds_toArray, List.set_cons_succ, List.set_cons_zero, v10, v13]
    go_wp2_with fail
    generalize hW3 : w2.setCell ⟨w.heap.size, 1, none⟩ (.string d) = W3 at *
    have HW3 := hid hW3
    clear hW3 k0 k1 k2 k3 v10 v13
    obtain ⟨mo, wv, hst, hMV, hrow, h4, h5, h6, h7, h8⟩ := g3.out
    have hbx : Has W3.drew w.heap.size #[.bool c.isSome, .string (c.getD ⟨#[]⟩)] 120 := by rw [HDV.out]; exact hx3.out
    refine Tl.wp_mix_lit (by kernel_rfl) 16 [15, 16, 17, 18, 19, 20, 21, 22, 23, 24, 25, 26, 27, 28, 29, 30] 37 rfl (by kernel_rfl) (AppW W3.drew wv s1.writes.length (s1.writes.flatMap wcells)) (tryF b w.heap.size mo wv n c s1.seen s1.writes.length (s1.writes.flatMap wcells) W3.heap.size) ⟨Only.refl _ _, hrow⟩
      ⟨fun a' W' hC hF => ?_, fun a' W' hC hF => ?_, fun a' W' hC hF => ?_, fun a' W' hC hF => ?_, fun a' W' hC hF => ?_, fun a' W' hC hF => ?_, fun a' W' hC hF => ?_, fun a' W' hC hF => ?_, fun a' W' hC hF => ?_, fun a' W' hC hF => ?_, fun a' W' hC hF => ?_, fun a' W' hC hF => ?_, fun a' W' hC hF => ?_, fun a' W' hC hF => ?_, fun a' W' hC hF => ?_, fun a' W' hC hF => ?_, trivial⟩ ?_
    · exact Tl.sm_v 15 _ rfl (Tl.wanted_none rfl) hC rfl (rn_move rfl ((hF 0 (by decide +kernel)).2 (by decide)))
    · exact Tl.sm_v 16 _ rfl (Tl.wanted_none rfl) hC rfl (rn_move rfl ((hF 0 (by decide +kernel)).2 (by decide)))
    · exact Tl.sm_v 17 _ rfl (Tl.wanted_none rfl) hC rfl (rn_nilCheck rfl ((hF 16 (by decide +kernel)).1 (by decide)))
    · exact Tl.sm_v 18 _ rfl (Tl.wanted_none rfl) hC rfl (rn_f63_1 rfl ((hF 17 (by decide +kernel)).1 (by decide)))
    · exact Tl.sm_v 19 _ rfl (Tl.wanted_none rfl) hC rfl (rn_load59 rfl ((hF 18 (by decide +kernel)).1 (by decide)) ((hC.has hst (row_ne hrow hst (by decide))).cell 1))
    · exact Tl.sm_v 20 _ rfl (Tl.wanted_none rfl) hC rfl (rn_move rfl ((hF 1 (by decide +kernel)).2 (by decide)))
    · exact Tl.sm_v 21 _ rfl (Tl.wanted_none rfl) hC rfl (rn_move rfl ((hF 0 (by decide +kernel)).2 (by decide)))
    · exact Tl.sm_v 22 _ rfl (Tl.wanted_none rfl) hC rfl (rn_nilCheck rfl ((hF 21 (by decide +kernel)).1 (by decide)))
    · exact Tl.sm_v 23 _ rfl (Tl.wanted_none rfl) hC rfl (rn_f63_0 rfl ((hF 22 (by decide +kernel)).1 (by decide)))
    · exact Tl.sm_v 24 _ rfl (Tl.wanted_none rfl) hC rfl (rn_load58 rfl ((hF 23 (by decide +kernel)).1 (by decide)) ((hC.has hst (row_ne hrow hst (by decide))).cell 0))
    · exact Tl.sm_v 25 _ rfl (Tl.wanted_none rfl) hC rfl (rn_move rfl ((hF 1 (by decide +kernel)).2 (by decide)))
    · exact Tl.sm_v 26 _ rfl (Tl.wanted_none rfl) hC rfl (rn_lookup58 rfl ((hF 24 (by decide +kernel)).1 (by decide)) ((hF 25 (by decide +kernel)).1 (by decide)) (MapV.look (hC.map hMV hrow) hnl false))
    · exact Tl.sm_v 27 _ rfl (Tl.wanted_none rfl) hC rfl (rn_load67 rfl ((hF 5 (by decide +kernel)).2 (by decide)) ((hC.has hbx (row_ne hrow hbx (by decide))).cell 0) ((hC.has hbx (row_ne hrow hbx (by decide))).cell 1))
    · exact Tl.sm_v 28 _ rfl (Tl.wanted_none rfl) hC rfl (rn_build83 rfl ((hF 20 (by decide +kernel)).1 (by decide)) ((hF 26 (by decide +kernel)).1 (by decide)) ((hF 27 (by decide +kernel)).1 (by decide)))
    · refine Tl.sm_w _ (Tl.wanted_none rfl) (rn_bs59 rfl ((hF 28 (by decide +kernel)).1 (by decide))) (hC.alloc _) (fun d v _ hf => tryF_below hf (boxed _ _)) fun d hd => ?_
      cases hd
      exact ⟨W'.heap.size, rfl, hC.1.size, Has.new _ _ _ _ rfl⟩
    · obtain ⟨ga, e29, hga, hHas⟩ : ∃ g, a'.tmps.getD 29 undef = .slice (some ⟨g, 0, none⟩) 1 1 ∧ W3.heap.size ≤ g ∧ Has W' g (wcells ⟨n, look n s1.seen, c⟩).toArray 122 := (hF 29 (by decide +kernel)).1 (by decide)
      obtain ⟨gb, cap, w'', r1, r2, r3, r4, r5⟩ := run_app2 el83 W' 99 0 wv _ _ hC.2 ⟨ga, 0, none⟩ 1 1 (wcells ⟨n, look n s1.seen, c⟩) (by decide) rfl (has_add hHas) (wcells_one _) (by omega) (Nat.zero_le _)
      refine Tl.sm_w _ (Tl.wanted_none rfl) (rn_app59 rfl ((hF 19 (by decide +kernel)).1 (by decide)) e29 r1) ⟨hC.1.trans (Only.of_grown (S := fun i => wv.ownBlock = some i) r3 (fun k h => h)) (fun _ h => .inl h), r4⟩ (fun i v hi hf => tryF_app hf (fun e => hi (by rw [e])) r3 (fun g hg => (hrow.lt g hg).2)) fun d hd => ?_
      cases hd
      exact ⟨gb, cap, rfl, r2, r5.imp id (Nat.le_trans hC.1.size)⟩
    intro v w4 hw4 hv
    obtain ⟨g, cap, v30, hr30, hg30⟩ : ∃ g cap, v 30 = .slice (some ⟨g, 0, none⟩) (s1.writes.length + 1) cap ∧ w4.ownsRow 0 122 5 (.slice (some ⟨g, 0, none⟩) (s1.writes.length + 1) cap) (s1.writes.length + 1) (s1.writes.flatMap wcells ++ wcells ⟨n, look n s1.seen, c⟩) ∧ (wv.ownBlock = some g ∨ W3.heap.size ≤ g) := hv 30 (by decide)
    have v15 : v 15 = .pointer (some ⟨b, 0, none⟩) := hv 15 (by decide)
    have hA4 := hid (st_writes (w := W3.drew) (S := S1) (q := ⟨n, look n s1.seen, c⟩) hst hMV hrow h4 h5 h6 h7 h8 hw4.1 hr30 (fun g' hg' => by simp [Value.ownBlock] at hg'; subst hg'; exact hg30))
    have hst4 := hw4.has hst (row_ne hrow hst (by decide))
    have hbx4 := hw4.has hbx (row_ne hrow hbx (by decide))
    have hbx5 := (hbx4.other ⟨b, 1, none⟩ (.slice (some ⟨g, 0, none⟩) (s1.writes.length + 1) cap) (fun e => by
      have : w.heap.size = b := e
      rcases G2.out b h4 with h | h
      · have := HS7.out b h; omega
      · omega))
    have y1 := hst4.cell 1
    have y2 := hst4.frozen 1
    have y3 := hbx5.cell 0
    have y4 := hbx5.cell 1
    rw [HDV.out] at y4
    clear hv hw4 hst hMV hrow h4 h5 h6 h7 h8 hbx hst4 hbx4 hbx5 hr30 hg30 g3 hx3
    simp only [Tl.fill, List.drop_succ_cons, List.drop_zero]
    simp only [Act.put, List.setIfInBounds_toArray, List.set_cons_succ, List.set_cons_zero, v30, v15]
    have hsetc : Hid (∀ S', IsSt (w4.setCell ⟨b, 1, none⟩ (.slice (some ⟨g, 0, none⟩) (s1.writes.length + 1) cap)) S' b { s1 with writes := s1.writes ++ [⟨n, look n s1.seen, c⟩] } → Calls Tryz.prog 56 #[.pointer (some ⟨b, 0, none⟩), .string n, .agg #[.bool c.isSome, .string d]] (w4.setCell ⟨b, 1, none⟩ (.slice (some ⟨g, 0, none⟩) (s1.writes.length + 1) cap)) fun e w' => e = .returned (.tuple #[]) ∧ After (w4.setCell ⟨b, 1, none⟩ (.slice (some ⟨g, 0, none⟩) (s1.writes.length + 1) cap)) w' S' b { s1 with live := s1.live || c.isSome, seen := setC n c s1.seen, writes := s1.writes ++ [⟨n, look n s1.seen, c⟩] }) := hid fun S' hI => by
      have := set_any hI n c hnl (by show s1.seen.length < maxLen; unfold maxLen; omega)
      unfold cv at this
      rw [HDV.out] at this
      exact this
    clear hsn hsw hn hc hnl
    go_wp2_with fail
    obtain ⟨S4, i1, i2, i3⟩ := hA4.out
    refine (hsetc.out S4 i1).mono ?_
    rintro e w5 ⟨rfl, S5, j1, j2, j3⟩
    have HFin := hid (show After w w5 S b { s1 with live := s1.live || c.isSome, seen := setC n c s1.seen, writes := s1.writes ++ [⟨n, look n s1.seen, c⟩] } from
      After.trans (S1 := S1) (fun i hi => (G2.out i hi).imp id (by omega)) O3.out.drew (After.trans (S1 := S4) i2 i3 ⟨S5, j1, j2, j3⟩))
    clear hA4 hsetc i1 i2 i3 j1 j2 j3 O3 G2 HS7
    go_wp2_with fail
    go_ret
    exact ⟨rfl, HFin.out⟩
end Go.Proofs.YtmpgfpmkmgebdaaGreatDoor.W
