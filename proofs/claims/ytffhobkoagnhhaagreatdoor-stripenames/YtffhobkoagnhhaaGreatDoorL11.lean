/- Stripe's laws: StripeNames, walked. -/
import Derived.Test.YtffhobkoagnhhaaGreatDoorL10
namespace Go.Proofs.YtffhobkoagnhhaaGreatDoor
open Go.RowKit Go.Maps
open W
set_option linter.unusedVariables false
section
variable {w0 w w' : World} {b : Nat} {V V' : Wd} {T : Nat → Prop}
theorem writeN (h : WT w0 w b V T) (hl : H.Lay w0) (hok : Ok 100 V.l.length V) {K N : Int} {bl : List Nat} (hbl : ∀ x ∈ bl, x < 256) {x o : ByteArray} {z : Int} (hx : C.ofBs bl = x) (he : wrG V K N bl = ((o, z), V')) (Q : Ending → World → Prop) (hq : ∀ w', WT w0 w' b V' T → Kpt T w w' → Q (.returned (.tuple #[.string o, .int .i64 z])) w') : Calls Tryz.prog 10 #[.pointer (some ⟨b, 0, none⟩), .agg #[.int .i64 K, .int .i64 N], .string x] w Q := by
  have := write_any h hl hok (by decide) K N bl hbl Q (fun w' a1 a2 _ => by rw [he] at a1 ⊢; exact hq w' a1 a2)
  rw [hx] at this
  exact this
theorem readN (h : WT w0 w b V T) (hl : H.Lay w0) (hok : Ok 100 V.l.length V) {K N : Int} {d : ByteArray} (he : askE V K N d = 1) (Q : Ending → World → Prop) (hq : ∀ w' o, WT w0 w' b V T → Kpt T w w' → Q (.returned (.tuple #[.string o, .int .i64 1])) w') : Calls Tryz.prog 11 #[.pointer (some ⟨b, 0, none⟩), .agg #[.int .i64 K, .int .i64 N], .string d] w Q :=
  read_any h hl K N d (Nat.le_trans hok.calls (by decide)) hok.left Q fun w' o z V' hr hw hk => by
    obtain ⟨rfl, rfl⟩ := rd_not he hr
    exact hq w' o hw hk
theorem shardsN (h : WT w0 w b V T) (hl : H.Lay w0) (hok : Ok 100 V.l.length V) {K N : Int} {d : ByteArray} (he : askE V K N d = 1) (Q : Ending → World → Prop) (hq : ∀ w', WT w0 w' b V T → Kpt T w w' → Q (.returned (.tuple #[.slice none 0 0, .int .i64 1])) w') : Calls Tryz.prog 12 #[.pointer (some ⟨b, 0, none⟩), .agg #[.int .i64 K, .int .i64 N], .string d] w Q :=
  shards_any h hl K N d (Nat.le_trans hok.calls (by decide)) hok.left Q (fun _ w' hw hk => by rw [he]; exact hq w' hw hk) (fun h _ => by rw [he] at h; exact absurd h (by decide)) (fun h _ => by rw [he] at h; exact absurd h (by decide))
end
section
variable {ev : Operand → Value} {o : Oper} {w : World} {x y : Operand}
theorem ens10 (args : Array Value) : (callFunc 10 args).run Tryz.prog w = .ok (.enter 10 args) w := by kernel_rfl
theorem rn_make35 (n : Nat) (hn : n ≤ 1000000) (ho : o.op = .makeSlice 35 x y) (hx : ev x = .int .i64 (n : Int)) (hy : ev y = .int .i64 (n : Int)) : (execOp ev o).run Tryz.prog w = .ok (.value (.slice (some ⟨w.heap.size, 0, none⟩) n n)) (w.alloc (.cells (C.U8s (List.replicate n 0)) 5)) := by
  have := C.makes_u8 n hn w
  simp [execOp, ho, hx, hy, this]
theorem rn_conv35 {v u : Value} (ho : o.op = .convert 35 9 x) (hx : ev x = v) (hc : (convert 35 9 v).run Tryz.prog w = .ok u w) : (execOp ev o).run Tryz.prog w = .ok (.value u) w := by
  simp [execOp, ho, hx, hc]
theorem rn_cut1 {d : ByteArray} (hd : d.size = 32) (ho : o.op = .slice 9 x (some (.const (.int .i64 1))) none none) (hx : ev x = .string d) (hc : ev (.const (.int .i64 1)) = .int .i64 1) : (execOp ev o).run Tryz.prog w = .ok (.value (.string (d.extract 1 32))) w := by
  simp [execOp, ho, hx, go_sem, hd, hc]
end
/-- a row of nought bytes, too long for a blob -/
abbrev zl : List Nat := List.replicate 32769 0
def Zs (W : World) (g : Nat) : Prop := Has W g (C.U8s zl) 5
theorem zl_lt : ∀ x ∈ zl, x < 256 := fun x hx => by rw [List.eq_of_mem_replicate hx]; decide
theorem Zs.conv {W : World} {g : Nat} (h : Zs W g) : (convert 35 9 (.slice (some ⟨g, 0, none⟩) 32769 32769)).run Tryz.prog W = .ok (.string (C.ofBs zl)) W := by
  refine C.conv_row ⟨some ⟨g, 0, none⟩, 32769, by rw [List.length_replicate], by rw [List.length_replicate]; decide, zl_lt, fun _ => ⟨g, 0, rfl, Has.lt h, fun j hj => ?_⟩⟩
  rw [Nat.zero_add]
  exact (Has.cell h j).trans (C.U8s_get _ _ hj)
def nmA (n b : Nat) (zs : ByteArray) (j : Nat) (v : Value) (W : World) : Prop := match j with
  | 76 => v = .pointer (some ⟨b, 0, none⟩) | 77 => v = .agg #[.int .i64 2, .int .i64 3]
  | 78 => ∃ g, v = .slice (some ⟨g, 0, none⟩) 32769 32769 ∧ n ≤ g ∧ Zs W g
  | 79 => v = .string zs | 80 => v = .tuple #[.string ⟨#[]⟩, .int .i64 40] | 75 => v = .tuple #[.string ⟨#[]⟩, .int .i64 40]
  | 81 => v = .string ⟨#[]⟩ | 82 => v = .int .i64 40 | 14 => v = .string ⟨#[]⟩
  | _ => True
theorem nmA_kept {n b : Nat} {zs : ByteArray} {j : Nat} {v : Value} {W W' : World} (h : nmA n b zs j v W) (hk : ∀ g, n ≤ g → g < W.heap.size → W'.heap[g]? = W.heap[g]?) : nmA n b zs j v W' := by
  unfold nmA at h ⊢
  split at h
  all_goals first
    | exact h
    | (obtain ⟨g, h1, h2, h3⟩ := h
       refine ⟨g, h1, h2, ?_⟩
       have := hk g h2 (Has.lt h3)
       unfold Zs Has at h3 ⊢
       rw [this]
       exact h3)
def nmB (b : Nat) (dg dx : ByteArray) (j : Nat) (v : Value) (_ : World) : Prop := match j with
  | 91 => v = .pointer (some ⟨b, 0, none⟩) | 92 => v = .agg #[.int .i64 2, .int .i64 3] | 93 => v = .string dg | 94 => v = .string dx
  | 95 => ∃ o : ByteArray, v = .tuple #[.string o, .int .i64 1] | 90 => ∃ o : ByteArray, v = .tuple #[.string o, .int .i64 1]
  | 96 => ∃ o : ByteArray, v = .string o | 97 => v = .int .i64 1 | 18 => ∃ o : ByteArray, v = .string o
  | _ => True
set_option maxHeartbeats 8000000 in
set_option maxRecDepth 20000 in
theorem names_true (w : World) (hl : H.Lay w) (Q : Ending → World → Prop) (hq : ∀ w', Below w.heap.size w w' → Q (.returned (.bool true)) w') : Calls Tryz.prog 3 #[] w Q := by
  have HQ := hid hq
  have HL := hid hl
  clear hq hl
  go_enter Tryz.func3, Tryz.ntmps3
  go_wp2_with fail
  refine works_true _ HL.out _ ?_
  intro wz hbz
  have HBZ := hid hbz
  clear hbz
  go_wp2_with fail
  refine three_any _ _ ?_
  intro b1 V1 w1 h1 hn1 hb1
  obtain ⟨a1, a2, a3, rfl⟩ := hn1.three
  have HLZ := hid (HL.out.below HBZ.out)
  have HX1 := hid (Has.new w1 w1.heap.size #[.int .i64 2, .int .i64 3] 25 rfl)
  have HW1 := hid ((h1.new ((Below.refl _ _).alloc (Nat.le_refl _) (.cells #[.int .i64 2, .int .i64 3] 25))).sub (T' := fun i => i = w1.heap.size) fun i hi => .inr ⟨by omega, by rw [hi]; exact HX1.out.lt⟩)
  clear h1 hn1 hb1 HL
  go_wp2_with fail
  refine (sumC _ (HW1.out.lay HLZ.out)).mono ?_
  rintro _ w2 ⟨rfl, hb2⟩
  have HX2 := hid (HX1.out.below hb2 HX1.out.lt)
  have HW2 := hid (HW1.out.below hb2)
  clear hb2 HX1 HW1
  go_wp2_with fail
  refine write_nil 0 0 _ _ _ ?_
  intro w3 hb3
  have HX3 := hid (HX2.out.below hb3 HX2.out.lt)
  have HW3 := hid (HW2.out.below hb3)
  obtain ⟨c0, c1, f0, f1⟩ := two_cells HX3.out
  clear hb3 HX2 HW2
  go_wp2_with fail
  clear c0 c1 f0 f1
  refine read_nil 2 3 _ _ _ ?_
  intro w4 hb4
  have HX4 := hid (HX3.out.below hb4 HX3.out.lt)
  have HW4 := hid (HW3.out.below hb4)
  obtain ⟨c0, c1, f0, f1⟩ := two_cells HX4.out
  clear hb4 HX3 HW3
  go_wp2_with fail
  clear c0 c1 f0 f1
  refine shards_nil 2 3 _ _ _ ?_
  intro w5 hb5
  have HX5 := hid (HX4.out.below hb5 HX4.out.lt)
  have HW5 := hid (HW4.out.below hb5)
  clear hb5 HX4 HW4
  go_wp2_with fail
  refine writeN HW5.out HLZ.out (ok3 fit_st0 fit_st0 fit_st0 (by decide)) (bl := []) (fun _ h => by cases h) rfl (k1 rfl) _ ?_
  intro w6 h6 k6
  have HX6 := hid (k6.has rfl HX5.out)
  have HW6 := hid h6
  clear h6 k6 HX5 HW5
  go_wp2_with fail
  refine writeN HW6.out HLZ.out (ok3 fit_st0 fit_st0 fit_st0 (by decide)) (bl := []) (fun _ h => by cases h) rfl k2 _ ?_
  intro w7 h7 k7
  have HX7 := hid (k7.has rfl HX6.out)
  have HW7 := hid h7
  clear h7 k7 HX6 HW6
  go_wp2_with fail
  obtain ⟨X2, hX2⟩ : ∃ X2 : World → Prop, X2 = fun W => WT wz W b1 (W3 a1 a2 a3 false false false st0 st0 st0 0) (fun i => i = w1.heap.size) ∧ Kpt (fun i => i = w1.heap.size) w7 W := ⟨_, rfl⟩
  have HHAS : Hid (∀ W, (BelW w7 W ∨ X2 W) → Has W w1.heap.size #[.int .i64 2, .int .i64 3] 25) := hid fun W h => by
    rcases h with h | h
    · exact HX7.out.below h HX7.out.lt
    · rw [hX2] at h
      exact h.2.has rfl HX7.out
  have HRD : Hid (∀ W, BelW w7 W → Calls Tryz.prog 10 #[.pointer (some ⟨b1, 0, none⟩), .agg #[.int .i64 2, .int .i64 3], .string (C.ofBs zl)] W fun e w' => e = .returned (.tuple #[.string ⟨#[]⟩, .int .i64 40]) ∧ X2 w' ∧ ∀ g, w7.heap.size ≤ g → g < W.heap.size → w'.heap[g]? = W.heap[g]?) := hid fun W hW => writeN (HW7.out.new hW) HLZ.out (ok3 fit_st0 fit_st0 fit_st0 (by decide)) zl_lt rfl (k3 rfl) _ fun w' hw hk => by
    rw [hX2]
    exact ⟨rfl, ⟨hw.sub fun i hi => .inl hi, (Kpt.below HW7.out hW).trans (hk.sub fun i hi => .inl hi)⟩, fun g h1 h2 => hk.2 g (.inr ⟨h1, h2⟩)⟩
  have HZC : Hid (∀ W g, Zs W g → (convert 35 9 (.slice (some ⟨g, 0, none⟩) 32769 32769)).run Tryz.prog W = .ok (.string (C.ofBs zl)) W) := hid fun W g h => h.conv
  generalize C.ofBs zl = zs at HRD HZC
  refine Tl.wp_mixL_lit (by kernel_rfl) 9 [76, 77, 78, 79, 80, 75, 81, 82, 14] 163 rfl (by kernel_rfl) (Tl.Two 3 4 (BelW w7) (BelW w7) X2) (nmA w7.heap.size b1 zs) ((Below.refl _ _).drew)
    ⟨fun l a' W' hsz hl hcl hed hC hF => ?_, fun l a' W' hsz hl hcl hed hC hF => ?_, fun l a' W' hsz hl hcl hed hC hF => ?_, fun l a' W' hsz hl hcl hed hC hF => ?_, fun l a' W' hsz hl hcl hed hC hF => ?_, fun l a' W' hsz hl hcl hed hC hF => ?_, fun l a' W' hsz hl hcl hed hC hF => ?_, fun l a' W' hsz hl hcl hed hC hF => ?_, fun l a' W' hsz hl hcl hed hC hF => ?_, trivial⟩ ?_
  · exact Tl.sl_v 76 _ rfl (Tl.wanted_none rfl) (hC.other (by decide) (by decide)) rfl (rn_move rfl ((hF 1 (by decide +kernel)).2 (by decide)))
  · have hh := HHAS.out _ (hC.any (Y := fun W => BelW w7 W ∨ X2 W) .inl .inl .inr)
    exact Tl.sl_v 77 _ rfl (Tl.wanted_none rfl) (hC.other (by decide) (by decide)) rfl (rn_load25 rfl ((hF 2 (by decide +kernel)).2 (by decide)) (hh.cell 0) (hh.cell 1))
  · have h3 : l.getD 3 false = false := by
      cases h : l.getD 3 false
      · rfl
      · exact absurd (hcl 3 2 h (by kernel_rfl)) (by rw [hl]; decide)
    have hb := hC.first h3
    have hr := rn_make35 (ev := a'.eval) (w := W') 32769 (by decide) (o := { dst := some 78, op := Op.makeSlice 35 (Operand.const (Value.int IntKind.i64 32769)) (Operand.const (Value.int IntKind.i64 32769)), type := 35, pos := "outright.go:59", after := #[], guard := none }) rfl rfl rfl
    rw [if_pos (Tl.wanted_none rfl)]
    unfold Oper.wp
    rw [hr]
    have hbn : Below W'.heap.size W' (W'.alloc (.cells (C.U8s zl) 5)) := boxed W' _
    exact ⟨_, rfl, (show Tl.Two 3 4 (BelW w7) (BelW w7) X2 l _ from by unfold Tl.Two; rw [if_neg (by rw [h3]; decide)]; exact Below.trans hb (hbn.mono (Below.size hb))).other (by decide) (by decide), fun d v hne h => nmA_kept h fun g _ h2 => hbn.block g h2, fun d hd => by cases hd; exact ⟨W'.heap.size, rfl, Below.size hb, Has.new W' _ _ _ rfl⟩⟩
  · obtain ⟨g, hg, _, hz⟩ : ∃ g, _ = Value.slice (some ⟨g, 0, none⟩) 32769 32769 ∧ w7.heap.size ≤ g ∧ Zs W' g := (hF 78 (by decide +kernel)).1 (by decide)
    exact Tl.sl_v 79 _ rfl (Tl.wanted_none rfl) (Tl.Two.did (by decide) hcl (by kernel_rfl) hl (by rw [hsz]; decide) (hC.first hl)) rfl (rn_conv35 rfl hg (HZC.out _ _ hz))
  · refine Tl.sl_call 10 #[_, _, _] (Tl.wanted_none rfl) (rn_call3 rfl rfl ((hF 76 (by decide +kernel)).1 (by decide)) ((hF 77 (by decide +kernel)).1 (by decide)) ((hF 79 (by decide +kernel)).1 (by decide)) (ens10 _)) ((HRD.out W' (hC.second (hed 3 (by kernel_rfl)) hl)).mono ?_)
    rintro e w'' ⟨rfl, ha, hkk⟩
    exact ⟨_, rfl, Tl.Two.both (by decide) (hed 3 (by kernel_rfl)) (by rw [hsz]; decide) ha, fun d v _ h => nmA_kept h hkk, fun d hd => by cases hd; rfl⟩
  · exact Tl.sl_v 75 _ rfl (Tl.wanted_none rfl) (hC.other (by decide) (by decide)) rfl (rn_move rfl ((hF 80 (by decide +kernel)).1 (by decide)))
  · exact Tl.sl_v 81 _ rfl (Tl.wanted_none rfl) (hC.other (by decide) (by decide)) rfl (rn_ext0 rfl ((hF 75 (by decide +kernel)).1 (by decide)))
  · exact Tl.sl_v 82 _ rfl (Tl.wanted_none rfl) (hC.other (by decide) (by decide)) rfl (rn_ext1 rfl ((hF 75 (by decide +kernel)).1 (by decide)))
  · exact Tl.sl_v 14 _ rfl (Tl.wanted_none rfl) (hC.other (by decide) (by decide)) rfl (rn_assign rfl ((hF 81 (by decide +kernel)).1 (by decide)))
  intro k v w8 hk hC hv
  have hx := hC.last (hk 3 (by decide)) (hk 4 (by decide))
  rw [hX2] at hx
  have v82 : v 82 = .int .i64 40 := hv 82 (by decide)
  have v14 : v 14 = .string ⟨#[]⟩ := hv 14 (by decide)
  have HX8 := hid (hx.2.has rfl HX7.out)
  have HW8 := hid hx.1
  clear hk hC hv hx HRD HHAS HZC hX2 HX7 HW7
  simp only [Tl.fill, List.drop_succ_cons, List.drop_zero, wpList]
  rw [if_pos (Tl.wanted_none rfl)]
  simp only [Act.put, List.setIfInBounds_toArray, List.set_cons_succ, List.set_cons_zero, v82, v14]
  clear v82 v14
  refine .inl (wp_assign (x := .tmp 82) (d := 15) (v := .int .i64 40) ?_ ?_ ?_ ?_)
  · rfl
  · rfl
  · rfl
  simp only [Act.put, List.setIfInBounds_toArray, List.set_cons_succ, List.set_cons_zero]
  go_wp2_with fail
  refine readN HW8.out HLZ.out (ok3 fit_st0 fit_st0 fit_st0 (by decide)) (ask_not (fit_not fun h => absurd (show (1 : Int) = 3 from h.2) (by decide))) _ ?_
  intro w9 o9 h9 k9
  have HX9 := hid (k9.has rfl HX8.out)
  have HW9 := hid h9
  clear h9 k9 HX8 HW8
  go_wp2_with fail
  obtain ⟨X2, hX2⟩ : ∃ X2 : World → Prop, X2 = fun W => WT wz W b1 (W3 a1 a2 a3 false false false st0 st0 st0 0) (fun i => i = w1.heap.size) ∧ Kpt (fun i => i = w1.heap.size) w9 W := ⟨_, rfl⟩
  have HHAS : Hid (∀ W, (BelW w9 W ∨ X2 W) → Has W w1.heap.size #[.int .i64 2, .int .i64 3] 25) := hid fun W h => by
    rcases h with h | h
    · exact HX9.out.below h HX9.out.lt
    · rw [hX2] at h
      exact h.2.has rfl HX9.out
  have HDS : Hid (dgB.size = 32) := hid (dig_len blob)
  have HRD : Hid (∀ W, BelW w9 W → Calls Tryz.prog 11 #[.pointer (some ⟨b1, 0, none⟩), .agg #[.int .i64 2, .int .i64 3], .string (dgB.extract 1 32)] W fun e w' => (∃ o : ByteArray, e = .returned (.tuple #[.string o, .int .i64 1])) ∧ X2 w') := hid fun W hW => readN (HW9.out.below hW) HLZ.out (ok3 fit_st0 fit_st0 fit_st0 (by decide)) (ask_size rfl (by rw [ByteArray.size_extract, HDS.out]; decide)) _ fun w' o hw hk => by
    rw [hX2]
    exact ⟨⟨o, rfl⟩, hw, (Kpt.below HW9.out hW).trans hk⟩
  refine Tl.wp_mixL_lit (by kernel_rfl) 9 [91, 92, 93, 94, 95, 90, 96, 97, 18] 163 rfl (by kernel_rfl) (Tl.Two 3 4 (BelW w9) (BelW w9) X2) (nmB b1 dgB (dgB.extract 1 32)) ((Below.refl _ _).drew)
    ⟨fun l a' W' hsz hl hcl hed hC hF => ?_, fun l a' W' hsz hl hcl hed hC hF => ?_, fun l a' W' hsz hl hcl hed hC hF => ?_, fun l a' W' hsz hl hcl hed hC hF => ?_, fun l a' W' hsz hl hcl hed hC hF => ?_, fun l a' W' hsz hl hcl hed hC hF => ?_, fun l a' W' hsz hl hcl hed hC hF => ?_, fun l a' W' hsz hl hcl hed hC hF => ?_, fun l a' W' hsz hl hcl hed hC hF => ?_, trivial⟩ ?_
  · exact Tl.sl_v 91 _ rfl (Tl.wanted_none rfl) (hC.other (by decide) (by decide)) rfl (rn_move rfl ((hF 1 (by decide +kernel)).2 (by decide)))
  · have hh := HHAS.out _ (hC.any (Y := fun W => BelW w9 W ∨ X2 W) .inl .inl .inr)
    exact Tl.sl_v 92 _ rfl (Tl.wanted_none rfl) (hC.other (by decide) (by decide)) rfl (rn_load25 rfl ((hF 2 (by decide +kernel)).2 (by decide)) (hh.cell 0) (hh.cell 1))
  · exact Tl.sl_v 93 _ rfl (Tl.wanted_none rfl) (hC.other (by decide) (by decide)) rfl (rn_move rfl ((hF 3 (by decide +kernel)).2 (by decide)))
  · exact Tl.sl_v 94 _ rfl (Tl.wanted_none rfl) (Tl.Two.did (by decide) hcl (by kernel_rfl) hl (by rw [hsz]; decide) (hC.first hl)) rfl (rn_cut1 HDS.out rfl ((hF 93 (by decide +kernel)).1 (by decide)) rfl)
  · refine Tl.sl_call 11 #[_, _, _] (Tl.wanted_none rfl) (rn_call3 rfl rfl ((hF 91 (by decide +kernel)).1 (by decide)) ((hF 92 (by decide +kernel)).1 (by decide)) ((hF 94 (by decide +kernel)).1 (by decide)) (ens11 _)) ((HRD.out W' (hC.second (hed 3 (by kernel_rfl)) hl)).mono ?_)
    rintro e w'' ⟨⟨o, rfl⟩, ha⟩
    exact ⟨_, rfl, Tl.Two.both (by decide) (hed 3 (by kernel_rfl)) (by rw [hsz]; decide) ha, fun _ _ _ h => h, fun d hd => by cases hd; exact ⟨o, rfl⟩⟩
  · obtain ⟨o, ho⟩ : ∃ o : ByteArray, _ = Value.tuple #[.string o, .int .i64 1] := (hF 95 (by decide +kernel)).1 (by decide)
    exact Tl.sl_v 90 _ rfl (Tl.wanted_none rfl) (hC.other (by decide) (by decide)) ⟨o, rfl⟩ (rn_move rfl ho)
  · obtain ⟨o, ho⟩ : ∃ o : ByteArray, _ = Value.tuple #[.string o, .int .i64 1] := (hF 90 (by decide +kernel)).1 (by decide)
    exact Tl.sl_v 96 _ rfl (Tl.wanted_none rfl) (hC.other (by decide) (by decide)) ⟨o, rfl⟩ (rn_ext0 rfl ho)
  · obtain ⟨o, ho⟩ : ∃ o : ByteArray, _ = Value.tuple #[.string o, .int .i64 1] := (hF 90 (by decide +kernel)).1 (by decide)
    exact Tl.sl_v 97 _ rfl (Tl.wanted_none rfl) (hC.other (by decide) (by decide)) rfl (rn_ext1 rfl ho)
  · obtain ⟨o, ho⟩ : ∃ o : ByteArray, _ = Value.string o := (hF 96 (by decide +kernel)).1 (by decide)
    exact Tl.sl_v 18 _ rfl (Tl.wanted_none rfl) (hC.other (by decide) (by decide)) ⟨o, rfl⟩ (rn_assign rfl ho)
  intro k v w10 hk hC hv
  have hx := hC.last (hk 3 (by decide)) (hk 4 (by decide))
  rw [hX2] at hx
  have v97 : v 97 = .int .i64 1 := hv 97 (by decide)
  obtain ⟨o18, v18⟩ : ∃ o : ByteArray, v 18 = .string o := hv 18 (by decide)
  have HX10 := hid (hx.2.has rfl HX9.out)
  have HW10 := hid hx.1
  obtain ⟨c0, c1, f0, f1⟩ := two_cells HX10.out
  have hds : dgB.size + 1 ≤ 9223372036854775807 := by rw [HDS.out]; decide
  clear hk hC hv hx HRD HHAS hX2 HX9 HW9
  simp only [Tl.fill, List.drop_succ_cons, List.drop_zero, wpList]
  rw [if_pos (Tl.wanted_none rfl)]
  simp only [Act.put, List.setIfInBounds_toArray, List.set_cons_succ, List.set_cons_zero, v97, v18]
  clear v97 v18
  refine .inl (wp_assign (x := .tmp 97) (d := 19) (v := .int .i64 1) ?_ ?_ ?_ ?_)
  · rfl
  · rfl
  · rfl
  simp only [Act.put, List.setIfInBounds_toArray, List.set_cons_succ, List.set_cons_zero]
  go_wp2_with fail
  clear c0 c1 f0 f1
  refine shardsN HW10.out HLZ.out (ok3 fit_st0 fit_st0 fit_st0 (by decide)) (ask_size rfl (by rw [ByteArray.size_append, HDS.out]; decide)) _ ?_
  intro w11 h11 k11
  have HX11 := hid (k11.has rfl HX10.out)
  have HW11 := hid h11
  obtain ⟨c0, c1, f0, f1⟩ := two_cells HX11.out
  clear h11 k11 HX10 HW10
  go_wp2_with fail
  clear c0 c1 f0 f1
  refine readB HW11.out HLZ.out (ok3 fit_st0 fit_st0 fit_st0 (by decide)) _ ?_
  intro w12 o12 z12 V12 hr h12 k12
  obtain ⟨rfl, rfl⟩ := rd4 hr
  have HW12 := hid h12
  clear hr h12 k12 HX11 HW11
  go_wp2_with fail
  refine callsB HW12.out (m := 3) rfl _ ?_
  go_wp2_with fail
  have HLE := hid (HW12.out.lay HLZ.out)
  have HBE := hid (HBZ.out.trans (HW12.out.base.mono HBZ.out.size))
  clear HW12
  refine refused_true _ HLE.out _ ?_
  intro w13 hb13
  have HL13 := hid (HLE.out.below hb13)
  have HB13 := hid (HBE.out.trans (hb13.mono HBE.out.size))
  clear hb13 HBE HLE
  go_wp2_with fail
  refine sound_true _ HL13.out _ ?_
  intro w14 hb14
  have HL14 := hid (HL13.out.below hb14)
  have HB14 := hid (HB13.out.trans (hb14.mono HB13.out.size))
  clear hb14 HB13 HL13
  go_wp2_with fail
  refine cuts_true _ HL14.out _ ?_
  intro w15 hb15
  have HB15 := hid (HB14.out.trans (hb15.mono HB14.out.size))
  clear hb15 HB14 HL14
  go_wp2_with fail
  exact HQ.out _ HB15.out
end Go.Proofs.YtffhobkoagnhhaaGreatDoor
