/- Stripe's laws: refused. Printed by gen_l5.py. -/
import Derived.Test.YtffhobkoagnhhaaGreatDoorOpn
namespace Go.Proofs.YtffhobkoagnhhaaGreatDoor
open Go.RowKit Go.Maps
open W
set_option linter.unusedVariables false
section
variable {w0 w w' : World} {b : Nat} {V V' : Wd} {T : Nat → Prop}
theorem writeB (h : WT w0 w b V T) (hl : H.Lay w0) (hok : Ok 100 V.l.length V) {o : ByteArray} {z : Int} (he : wrG V 2 3 blob = ((o, z), V')) (Q : Ending → World → Prop) (hq : ∀ w', WT w0 w' b V' T → Kpt T w w' → Q (.returned (.tuple #[.string o, .int .i64 z])) w') : Calls Tryz.prog 10 #[.pointer (some ⟨b, 0, none⟩), .agg #[.int .i64 2, .int .i64 3], .string ⟨#[98, 108, 111, 98]⟩] w Q := by
  have := write_any h hl hok (by decide) 2 3 blob blob_lt Q (fun w' a1 a2 _ => by rw [he] at a1 ⊢; exact hq w' a1 a2)
  rw [bs_blob] at this
  exact this
theorem callsB (h : WT w0 w b V T) {m : Int} (he : (V.calls : Int) = m) (Q : Ending → World → Prop) (hq : Q (.returned (.int .i64 m)) w) : Calls Tryz.prog 13 #[.pointer (some ⟨b, 0, none⟩)] w Q := by
  refine h.calls.mono ?_
  rintro _ _ ⟨rfl, rfl⟩
  rw [he]
  exact hq
theorem crashB (h : WT w0 w b V T) (hn : V.l.length ≤ 1000) (hF : ∀ x ∈ V.l, Fit 100 x.st ∧ (x.st.writes ≠ [] → x.st.live = true)) (he : crashW V [] = V') (Q : Ending → World → Prop) (hq : ∀ w', WT w0 w' b V' T → Kpt T w w' → Q (.returned (.int .i64 0)) w') : Calls Tryz.prog 26 #[.pointer (some ⟨b, 0, none⟩), .slice none 0 0] w Q := by
  have := h.crash hn hF (by decide) (.slice none 0 0) [] ⟨.inl ⟨none, 0, rfl, rfl⟩, fun x h => by cases h⟩ (by decide)
  rw [he] at this
  refine this.mono ?_
  rintro _ w' ⟨rfl, a1, a2⟩
  exact hq w' a1 a2
end
/-- a store that refuses its next write -/
def rf0 : St := ⟨[], [], false, some 0, none, false⟩
/-- a store of five bytes' room -/
def rm5 : St := ⟨[], [], false, none, some 5, false⟩
/-- a store that has its shard, not synced -/
def pu (m : Nat) : St := ⟨[(nmS (dig blob) m, shD 2 3 blob m)], [⟨nmS (dig blob) m, none, some (shD 2 3 blob m)⟩], false, none, none, true⟩
/-- what a crash leaves of it, if nothing survives -/
def cr0 : St := ⟨[], [], false, none, none, true⟩
section
set_option maxRecDepth 100000
theorem fit_rf0 : Fit 100 rf0 := fit_of (by decide +kernel) (by decide +kernel) (by decide +kernel) (by decide +kernel) (fun k h => by cases h; decide) (fun k h => by cases h)
theorem fit_rm5 : Fit 100 rm5 := fit_of (by decide +kernel) (by decide +kernel) (by decide +kernel) (by decide +kernel) (fun k h => by cases h) (fun k h => by cases h; decide)
theorem fit_cr0 : Fit 100 cr0 := fit_of (by decide +kernel) (by decide +kernel) (by decide +kernel) (by decide +kernel) (fun k h => by cases h) (fun k h => by cases h)
theorem fit_pu0 : Fit 100 (pu 0) := fit_of (by decide +kernel) (by decide +kernel) (by decide +kernel) (by decide +kernel) (fun k h => by cases h) (fun k h => by cases h)
theorem fit_pu1 : Fit 100 (pu 1) := fit_of (by decide +kernel) (by decide +kernel) (by decide +kernel) (by decide +kernel) (fun k h => by cases h) (fun k h => by cases h)
variable (a b c : Nat) (s t u : Bool) (n : Nat)
theorem g1 : strikeW (W3 a b c s t u dn0 st0 st0 0) 4 2 0 0 0 = (0, W3 a b c s t (u || true) dn0 st0 dn0 0) := by kernel_rfl
theorem g2 : wrG (W3 a b c s t u dn0 st0 dn0 0) 2 3 blob = ((⟨#[]⟩, 55), W3 a b c s t u dn0 st0 dn0 3) := by kernel_rfl
theorem g3 : strikeW (W3 a b c s t u st0 st0 st0 0) 6 0 0 0 0 = (0, W3 a b c (s || true) t u rf0 st0 st0 0) := by kernel_rfl
theorem g4 : strikeW (W3 a b c s t u rf0 st0 st0 0) 6 2 0 0 0 = (0, W3 a b c s t (u || true) rf0 st0 rf0 0) := by kernel_rfl
theorem g5 : wrG (W3 a b c s t u rf0 st0 rf0 0) 2 3 blob = ((⟨#[]⟩, 53), W3 a b c s t u st0 (pu 1) st0 6) := by kernel_rfl
theorem g6 : crashW (W3 a b c s t u st0 (pu 1) st0 6) [] = W3 a b c s t u st0 cr0 st0 6 := by kernel_rfl
theorem g7 : strikeW (W3 a b c s t u st0 st0 st0 0) 6 1 0 0 0 = (0, W3 a b c s (t || true) u st0 rf0 st0 0) := by kernel_rfl
theorem g8 : wrG (W3 a b c s t u st0 rf0 st0 0) 2 3 blob = ((dig blob, 0), W3 a b c s t u (hd 0) st0 (hd 2) 8) := by kernel_rfl
theorem g9 : wrG (W3 a b c s t u (hd 0) st0 (hd 2) 8) 2 3 blob = ((dig blob, 0), W3 a b c s t u (hd 0) (hd 1) (hd 2) 15) := by kernel_rfl
theorem g10 : strikeW (W3 a b c s t u st0 st0 st0 0) 7 1 5 0 0 = (0, W3 a b c s (t || false) u st0 rm5 st0 0) := by kernel_rfl
theorem g11 : wrG (W3 a b c s t u st0 rm5 st0 0) 2 3 blob = ((⟨#[]⟩, 52), W3 a b c s t u (pu 0) rm5 st0 5) := by kernel_rfl
theorem z8 : callsZ (W3 a b c s t u st0 rf0 st0 0) 2 3 blob = 8 := by unfold callsZ; rw [g8]; rfl
theorem z9 : callsZ (W3 a b c s t u (hd 0) st0 (hd 2) 8) 2 3 blob = 7 := by unfold callsZ; rw [g9]; rfl
theorem live6 : ∀ x ∈ (W3 a b c s t u st0 (pu 1) st0 6).l, Fit 100 x.st ∧ (x.st.writes ≠ [] → x.st.live = true) := by
  intro x hx
  refine ⟨fit3 fit_st0 fit_pu1 fit_st0 x hx, fun h => ?_⟩
  simp only [W3, List.mem_cons, List.not_mem_nil, or_false] at hx
  rcases hx with rfl | rfl | rfl
  · exact absurd rfl h
  · rfl
  · exact absurd rfl h
end
set_option maxHeartbeats 8000000 in
set_option maxRecDepth 20000 in
theorem refused_true (w : World) (hl : H.Lay w) (Q : Ending → World → Prop) (hq : ∀ w', Below w.heap.size w w' → Q (.returned (.bool true)) w') : Calls Tryz.prog 14 #[] w Q := by
  have HQ := hid hq
  have HL := hid hl
  clear hq hl
  go_enter Tryz.func14, Tryz.ntmps14
  go_wp2_with fail
  refine three_any _ _ ?_
  intro b1 V1 w1 h1 hn1 hb1
  obtain ⟨a1, a2, a3, rfl⟩ := hn1.three
  have HLQ : Hid (w.heap.size ≤ w1.heap.size) := hid hb1.size
  have HX1 := hid (Has.new w1 w1.heap.size #[.int .i64 2, .int .i64 3] 25 rfl)
  have HW1 := hid ((h1.new ((Below.refl _ _).alloc (Nat.le_refl _) (.cells #[.int .i64 2, .int .i64 3] 25))).sub (T' := fun i => i = w1.heap.size) fun i hi => .inr ⟨by omega, by rw [hi]; exact HX1.out.lt⟩)
  clear h1 hn1 hb1
  go_wp2_with fail
  refine strikeB HW1.out (fit3 fit_st0 fit_st0 fit_st0) (by decide) (e3 ..) _ ?_
  intro w2 h2 k2
  have HX2 := hid (k2.has rfl HX1.out)
  have HW2 := hid h2
  clear h2 k2 HX1 HW1
  go_wp2_with fail
  refine strikeB HW2.out (fit3 fit_dn0 fit_st0 fit_st0) (by decide) (g1 ..) _ ?_
  intro w3 h3 k3
  have HX3 := hid (k3.has rfl HX2.out)
  have HW3 := hid h3
  clear h3 k3 HX2 HW2
  obtain ⟨c0, c1, f0, f1⟩ := two_cells HX3.out
  go_wp2_with fail
  refine writeB HW3.out HL.out (ok3 fit_dn0 fit_st0 fit_dn0 (by decide)) (g2 ..) _ ?_
  clear c0 c1 f0 f1
  intro w4 h4 k4
  have HX4 := hid (k4.has rfl HX3.out)
  have HW4 := hid h4
  clear h4 k4 HX3 HW3
  go_wp2_with fail
  refine callsB HW4.out (m := 3) rfl _ ?_
  go_wp2_with fail
  refine objsB HW4.out (fit3 fit_dn0 fit_st0 fit_dn0) (m := 0) rfl _ ?_
  intro w6 A6 c6 hb6
  have HX6 := hid (HX4.out.below hb6 HX4.out.lt)
  have HW6 := hid (HW4.out.below hb6)
  clear hb6 HX4 HW4
  go_wp2_with fail
  refine three_any _ _ ?_
  intro b7 V7 w7 h7 hn7 hb7
  obtain ⟨a17, a27, a37, rfl⟩ := hn7.three
  have HXa := hid (HX6.out.below hb7 HX6.out.lt)
  have HWa := hid ((h7.rebase HW6.out.base).sub (T' := fun i => i = w1.heap.size) fun i hi => by rw [hi]; exact HX6.out.lt)
  have HW7 := hid (HWa.out.only (code_put w7 w1.heap.size (.int .i64 2) (.int .i64 3)) (fun i hi => by rw [hi]; exact HLQ.out))
  have HX7 := hid (two_put HXa.out (.int .i64 2) (.int .i64 3))
  obtain ⟨c0, c1, f0, f1⟩ := two_cells HXa.out
  have f2 : ∀ u, (w7.setCell ⟨w1.heap.size, 0, none⟩ u).frozen? ⟨w1.heap.size, 1, none⟩ = false := fun u => (HXa.out.set 0 u).frozen _
  clear h7 hn7 hb7 HXa HWa HX6 HW6
  go_wp2_with fail
  clear c0 c1 f0 f1 f2
  refine strikeB HW7.out (fit3 fit_st0 fit_st0 fit_st0) (by decide) (g3 ..) _ ?_
  intro w8 h8 k8
  have HX8 := hid (k8.has rfl HX7.out)
  have HW8 := hid h8
  clear h8 k8 HX7 HW7
  go_wp2_with fail
  refine strikeB HW8.out (fit3 fit_rf0 fit_st0 fit_st0) (by decide) (g4 ..) _ ?_
  intro w9 h9 k9
  have HX9 := hid (k9.has rfl HX8.out)
  have HW9 := hid h9
  clear h9 k9 HX8 HW8
  obtain ⟨c0, c1, f0, f1⟩ := two_cells HX9.out
  go_wp2_with fail
  refine writeB HW9.out HL.out (ok3 fit_rf0 fit_st0 fit_rf0 (by decide)) (g5 ..) _ ?_
  clear c0 c1 f0 f1
  intro w10 h10 k10
  have HX10 := hid (k10.has rfl HX9.out)
  have HW10 := hid h10
  clear h10 k10 HX9 HW9
  go_wp2_with fail
  refine callsB HW10.out (m := 6) rfl _ ?_
  go_wp2_with fail
  refine objsB HW10.out (fit3 fit_st0 fit_pu1 fit_st0) (m := 1) rfl _ ?_
  intro w12 A12 c12 hb12
  have HX12 := hid (HX10.out.below hb12 HX10.out.lt)
  have HW12 := hid (HW10.out.below hb12)
  clear hb12 HX10 HW10
  go_wp2_with fail
  refine crashB HW12.out (by show (3 : Nat) ≤ _; decide) (fun x hx => live6 _ _ _ _ _ _ x hx) (g6 ..) _ ?_
  intro w13 h13 k13
  have HX13 := hid (k13.has rfl HX12.out)
  have HW13 := hid h13
  clear h13 k13 HX12 HW12
  go_wp2_with fail
  refine objsB HW13.out (fit3 fit_st0 fit_cr0 fit_st0) (m := 0) rfl _ ?_
  intro w14 A14 c14 hb14
  have HX14 := hid (HX13.out.below hb14 HX13.out.lt)
  have HW14 := hid (HW13.out.below hb14)
  clear hb14 HX13 HW13
  go_wp2_with fail
  refine three_any _ _ ?_
  intro b15 V15 w15 h15 hn15 hb15
  obtain ⟨a115, a215, a315, rfl⟩ := hn15.three
  have HXa := hid (HX14.out.below hb15 HX14.out.lt)
  have HWa := hid ((h15.rebase HW14.out.base).sub (T' := fun i => i = w1.heap.size) fun i hi => by rw [hi]; exact HX14.out.lt)
  have HW15 := hid (HWa.out.only (code_put w15 w1.heap.size (.int .i64 2) (.int .i64 3)) (fun i hi => by rw [hi]; exact HLQ.out))
  have HX15 := hid (two_put HXa.out (.int .i64 2) (.int .i64 3))
  obtain ⟨c0, c1, f0, f1⟩ := two_cells HXa.out
  have f2 : ∀ u, (w15.setCell ⟨w1.heap.size, 0, none⟩ u).frozen? ⟨w1.heap.size, 1, none⟩ = false := fun u => (HXa.out.set 0 u).frozen _
  clear h15 hn15 hb15 HXa HWa HX14 HW14
  go_wp2_with fail
  clear c0 c1 f0 f1 f2
  refine strikeB HW15.out (fit3 fit_st0 fit_st0 fit_st0) (by decide) (g7 ..) _ ?_
  intro w16 h16 k16
  have HX16 := hid (k16.has rfl HX15.out)
  have HW16 := hid h16
  clear h16 k16 HX15 HW15
  obtain ⟨c0, c1, f0, f1⟩ := two_cells HX16.out
  go_wp2_with fail
  refine callB HW16.out HL.out (ok3 fit_st0 fit_rf0 fit_st0 (by decide)) (by rw [g8]) (z8 ..) _ ?_
  clear c0 c1 f0 f1
  intro w17 h17 k17
  have HX17 := hid (k17.has rfl HX16.out)
  have HW17 := hid h17
  clear h17 k17 HX16 HW16
  go_wp2_with fail
  refine objsB HW17.out (fit3 fit_hd0 fit_st0 fit_hd2) (m := 0) rfl _ ?_
  intro w18 A18 c18 hb18
  have HX18 := hid (HX17.out.below hb18 HX17.out.lt)
  have HW18 := hid (HW17.out.below hb18)
  clear hb18 HX17 HW17
  obtain ⟨c0, c1, f0, f1⟩ := two_cells HX18.out
  go_wp2_with fail
  refine callB HW18.out HL.out (ok3 fit_hd0 fit_st0 fit_hd2 (by decide)) (by rw [g9]) (z9 ..) _ ?_
  clear c0 c1 f0 f1
  intro w19 h19 k19
  have HX19 := hid (k19.has rfl HX18.out)
  have HW19 := hid h19
  clear h19 k19 HX18 HW18
  go_wp2_with fail
  refine objsB HW19.out (fit3 fit_hd0 fit_hd1 fit_hd2) (m := 1) rfl _ ?_
  intro w20 A20 c20 hb20
  have HX20 := hid (HX19.out.below hb20 HX19.out.lt)
  have HW20 := hid (HW19.out.below hb20)
  clear hb20 HX19 HW19
  go_wp2_with fail
  refine three_any _ _ ?_
  intro b21 V21 w21 h21 hn21 hb21
  obtain ⟨a121, a221, a321, rfl⟩ := hn21.three
  have HXa := hid (HX20.out.below hb21 HX20.out.lt)
  have HWa := hid ((h21.rebase HW20.out.base).sub (T' := fun i => i = w1.heap.size) fun i hi => by rw [hi]; exact HX20.out.lt)
  have HW21 := hid (HWa.out.only (code_put w21 w1.heap.size (.int .i64 2) (.int .i64 3)) (fun i hi => by rw [hi]; exact HLQ.out))
  have HX21 := hid (two_put HXa.out (.int .i64 2) (.int .i64 3))
  obtain ⟨c0, c1, f0, f1⟩ := two_cells HXa.out
  have f2 : ∀ u, (w21.setCell ⟨w1.heap.size, 0, none⟩ u).frozen? ⟨w1.heap.size, 1, none⟩ = false := fun u => (HXa.out.set 0 u).frozen _
  clear h21 hn21 hb21 HXa HWa HX20 HW20
  go_wp2_with fail
  clear c0 c1 f0 f1 f2
  refine strikeB HW21.out (fit3 fit_st0 fit_st0 fit_st0) (by decide) (g10 ..) _ ?_
  intro w22 h22 k22
  have HX22 := hid (k22.has rfl HX21.out)
  have HW22 := hid h22
  clear h22 k22 HX21 HW21
  obtain ⟨c0, c1, f0, f1⟩ := two_cells HX22.out
  go_wp2_with fail
  refine writeB HW22.out HL.out (ok3 fit_st0 fit_rm5 fit_st0 (by decide)) (g11 ..) _ ?_
  clear c0 c1 f0 f1
  intro w23 h23 k23
  have HX23 := hid (k23.has rfl HX22.out)
  have HW23 := hid h23
  clear h23 k23 HX22 HW22
  go_wp2_with fail
  refine callsB HW23.out (m := 5) rfl _ ?_
  go_wp2_with fail
  refine objsB HW23.out (fit3 fit_pu0 fit_rm5 fit_st0) (m := 1) rfl _ ?_
  intro w25 A25 c25 hb25
  have HX25 := hid (HX23.out.below hb25 HX23.out.lt)
  have HW25 := hid (HW23.out.below hb25)
  clear hb25 HX23 HW23
  go_wp2_with fail
  refine objsB HW25.out (fit3 fit_pu0 fit_rm5 fit_st0) (m := 0) rfl _ ?_
  intro w26 A26 c26 hb26
  have HX26 := hid (HX25.out.below hb26 HX25.out.lt)
  have HW26 := hid (HW25.out.below hb26)
  clear hb26 HX25 HW25
  go_wp2_with fail
  exact HQ.out _ HW26.out.base
end Go.Proofs.YtffhobkoagnhhaaGreatDoor
/- Stripe's laws: cuts. Printed by gen_l6.py. -/
namespace Go.Proofs.YtffhobkoagnhhaaGreatDoor
open Go.RowKit Go.Maps
open W
set_option linter.unusedVariables false
/-- a new world of three stores whose power goes behind k calls -/
def Wc (a b c k : Nat) : Wd := ⟨[⟨a, st0, false⟩, ⟨b, st0, false⟩, ⟨c, st0, false⟩], 0, false, true, k⟩
theorem cutE (a b c k : Nat) : cutW (W3 a b c false false false st0 st0 st0 0) (k : Int) = (0, Wc a b c k) := by
  unfold cutW
  rw [if_neg (by omega), Int.toNat_natCast]
  rfl
section
set_option maxRecDepth 100000
theorem wc (a b c k : Nat) (hk : k < 9) : (wrG (Wc a b c k) 2 3 blob).1 = (⟨#[]⟩, 56) ∧ (wrG (Wc a b c k) 2 3 blob).2.dark = true := by
  match k, hk with
  | 0, _ => exact ⟨by kernel_rfl, by kernel_rfl⟩
  | 1, _ => exact ⟨by kernel_rfl, by kernel_rfl⟩
  | 2, _ => exact ⟨by kernel_rfl, by kernel_rfl⟩
  | 3, _ => exact ⟨by kernel_rfl, by kernel_rfl⟩
  | 4, _ => exact ⟨by kernel_rfl, by kernel_rfl⟩
  | 5, _ => exact ⟨by kernel_rfl, by kernel_rfl⟩
  | 6, _ => exact ⟨by kernel_rfl, by kernel_rfl⟩
  | 7, _ => exact ⟨by kernel_rfl, by kernel_rfl⟩
  | 8, _ => exact ⟨by kernel_rfl, by kernel_rfl⟩
  | k + 9, h => exact absurd h (by omega)
end
section
variable {V : Wd}
theorem count_dark (h : V.dark = true) : (countW V).dark = true ∧ (countW V).l = V.l ∧ (countW V).calls = V.calls + 1 := by
  obtain ⟨h1, _, h3⟩ := countW_small V
  refine ⟨?_, h3, h1⟩
  unfold countW
  split
  · split
    · rfl
    · exact h
  · exact h
theorem ask_dark {σ : Type} {d : ByteArray} {nx : σ → Nat → ByteArray → Int → Bool × σ} {n : Nat} {s : σ} (h : V.dark = true) (hn : 0 < V.l.length) : askG d nx (n + 1) 0 V s = (56, countW V, s) := by
  have hr : 0 ≤ ((0 : Nat) : Int) ∧ ((0 : Nat) : Int) < (V.l.length : Int) := by omega
  rw [askG_succ]
  unfold getW askW
  rw [if_pos hr, if_pos hr, if_pos (count_dark h).1]
  rfl
theorem found_dark {K N : Int} {d : ByteArray} (h : V.dark = true) (hn : V.l.length = 3) : found V K N d = (56, countW V, []) := by
  unfold found
  rw [hn]
  exact ask_dark h (by omega)
theorem shG_dark {K N : Int} {d : ByteArray} (h : V.dark = true) (hn : V.l.length = 3) : (shG V K N d).1 = 56 ∧ (shG V K N d).2.1 = countW V := by
  unfold shG
  rw [hn, ask_dark h (by omega)]
  exact ⟨rfl, rfl⟩
theorem askE_3 (hn : V.l.length = 3) : askE V 2 3 (dig blob) = 0 := by
  unfold askE fitE
  have hF : (if C.Mx.mayC 2 3 = true ∧ (3 : Int) = (V.l.length : Int) then (0:Int) else 1) = 0 := if_pos ⟨by decide, by rw [hn]; rfl⟩
  rw [hF, if_pos rfl, if_pos (dig_len blob)]
theorem read_dark (h : V.dark = true) (hn : V.l.length = 3) {o : ByteArray} {z : Int} {V' : Wd} (hr : ReadIs V 2 3 (dig blob) o z V') : z = 56 ∧ V' = countW V := by
  have h0 := askE_3 hn
  rcases hr with ⟨h1, _⟩ | ⟨_, _, _, h2, h3⟩ | ⟨_, h1, _⟩
  · exact absurd h0 h1
  · rw [found_dark h hn] at h2 h3
    exact ⟨h2, h3⟩
  · rw [found_dark h hn] at h1
    exact absurd (show (56 : Int) = 0 from h1) (by decide)
end
def cuA (b : Nat) (dg : ByteArray) (j : Nat) (v : Value) (_ : World) : Prop := match j with
  | 29 => v = .pointer (some ⟨b, 0, none⟩) | 30 => v = .agg #[.int .i64 2, .int .i64 3] | 31 => v = .string dg
  | 32 => ∃ o : ByteArray, v = .tuple #[.string o, .int .i64 56] | 28 => ∃ o : ByteArray, v = .tuple #[.string o, .int .i64 56]
  | 33 => ∃ o : ByteArray, v = .string o | 34 => v = .int .i64 56 | 6 => ∃ o : ByteArray, v = .string o
  | _ => True
def cuB (b : Nat) (dg : ByteArray) (j : Nat) (v : Value) (_ : World) : Prop := match j with
  | 36 => v = .pointer (some ⟨b, 0, none⟩) | 37 => v = .agg #[.int .i64 2, .int .i64 3] | 38 => v = .string dg
  | 39 => v = .tuple #[.slice none 0 0, .int .i64 56] | 35 => v = .tuple #[.slice none 0 0, .int .i64 56]
  | 40 => v = .slice none 0 0 | 41 => v = .int .i64 56 | 8 => v = .slice none 0 0
  | _ => True
theorem ens12 {w : World} (args : Array Value) : (callFunc 12 args).run Tryz.prog w = .ok (.enter 12 args) w := by kernel_rfl
set_option maxHeartbeats 8000000 in
set_option maxRecDepth 20000 in
theorem cuts_true (w : World) (hl : H.Lay w) (Q : Ending → World → Prop) (hq : ∀ w', Below w.heap.size w w' → Q (.returned (.bool true)) w') : Calls Tryz.prog 16 #[] w Q := by
  have HQ := hid hq
  have HL := hid hl
  clear hq hl
  go_enter Tryz.func16, Tryz.ntmps16
  go_wp2_with fail
  go_loopg [1] 9 (fun gk s1 wx => ∃ (k : Nat), k + gk = 9 ∧ s1 = .int .i64 (k : Int) ∧ Below w.heap.size w wx)
  case atStart => exact ⟨0, by omega, rfl, Below.refl _ _⟩
  case round =>
    obtain ⟨k, hk, rfl, hbw⟩ := hrel
    have HBW := hid hbw
    clear hbw
    cases gk with
    | zero =>
      have p1 : ¬ ((k : Int) < 9) := by omega
      have HE := hid (HQ.out _ HBW.out)
      clear HQ hk
      go_wp2_with fail
      exact HE.out
    | succ g1 =>
      have p1 : (k : Int) < 9 := by omega
      have HK : Hid (k < 9) := hid (by omega)
      have HLR := hid (HL.out.below HBW.out)
      clear HL
      go_wp2_with fail
      refine three_any _ _ ?_
      intro b1 V1 w1 h1 hn1 hb1
      obtain ⟨a1, a2, a3, rfl⟩ := hn1.three
      have HX1 := hid (Has.new w1 w1.heap.size #[.int .i64 2, .int .i64 3] 25 rfl)
      have HW1 := hid ((h1.new ((Below.refl _ _).alloc (Nat.le_refl _) (.cells #[.int .i64 2, .int .i64 3] 25))).sub (T' := fun i => i = w1.heap.size) fun i hi => .inr ⟨by omega, by rw [hi]; exact HX1.out.lt⟩)
      clear h1 hn1 hb1
      go_wp2_with fail
      have HCU := HW1.out.cut (k : Int)
      rw [cutE] at HCU
      unfold ptr er at HCU
      refine HCU.mono ?_
      clear HCU
      rintro _ w2 ⟨rfl, h2, k2⟩
      have HX2 := hid (k2.has rfl HX1.out)
      have HW2 := hid h2
      obtain ⟨c0, c1, f0, f1⟩ := two_cells HX2.out
      clear h2 k2 HX1 HW1
      have HWR := fun Q => write_any HW2.out HLR.out (M := 100) ⟨rfl, fun x hx => by
        simp only [Wc, List.mem_cons, List.not_mem_nil, or_false] at hx
        rcases hx with rfl | rfl | rfl <;> exact fit_st0, by show (0 : Nat) ≤ _; decide, by show k < _; have := HK.out; omega⟩ (by decide) 2 3 blob blob_lt Q
      have HWC := hid (wc a1 a2 a3 k HK.out)
      rw [bs_blob] at HWR
      unfold ptr C.cv at HWR
      generalize wrG (Wc a1 a2 a3 k) 2 3 blob = r at *
      obtain ⟨⟨o, z⟩, V3⟩ := r
      obtain ⟨hoz, HD3⟩ := HWC.out
      cases hoz
      have HD3 := hid HD3
      clear HWC
      dsimp only at *
      go_wp2_with fail
      refine HWR _ ?_
      clear HWR c0 c1 f0 f1
      intro w3 h3 k3 ok3
      have HX3 := hid (k3.has rfl HX2.out)
      have HW3 := hid h3
      have HOK3 := hid ok3
      have HL3 : Hid (V3.l.length = 3) := hid ok3.len
      clear h3 k3 ok3 HX2 HW2
      go_wp2_with fail
      have HSM : Hid (∀ W', BelW w3 W' → Calls Tryz.prog 9 #[.string ⟨#[98, 108, 111, 98]⟩] W' fun e w' => e = .returned (.string (dig blob)) ∧ Below W'.heap.size W' w') := hid fun W' hW => sumB W' ((HW3.out.below hW).lay HLR.out)
      obtain ⟨X2, hX2⟩ : ∃ X2 : World → Prop, X2 = fun W => WT wr W b1 (countW V3) (fun i => i = w1.heap.size) ∧ Kpt (fun i => i = w1.heap.size) w3 W := ⟨_, rfl⟩
      have HHAS : Hid (∀ W, (BelW w3 W ∨ X2 W) → Has W w1.heap.size #[.int .i64 2, .int .i64 3] 25) := hid fun W h => by
        rcases h with h | h
        · exact HX3.out.below h HX3.out.lt
        · rw [hX2] at h
          exact h.2.has rfl HX3.out
      have HRD : Hid (∀ W, BelW w3 W → Calls Tryz.prog 11 #[.pointer (some ⟨b1, 0, none⟩), .agg #[.int .i64 2, .int .i64 3], .string (dig blob)] W fun e w' => (∃ o : ByteArray, e = .returned (.tuple #[.string o, .int .i64 56])) ∧ X2 w') := hid fun W hW => read_any (HW3.out.below hW) HLR.out 2 3 (dig blob) (Nat.le_trans HOK3.out.calls (by decide)) HOK3.out.left _ fun w' o z V' hr hw hk => by
        obtain ⟨rfl, rfl⟩ := read_dark HD3.out HL3.out hr
        rw [hX2]
        exact ⟨⟨o, rfl⟩, hw, (Kpt.below HW3.out hW).trans hk⟩
      generalize dig blob = dg at HSM HRD
      refine Tl.wp_mixL_lit (by kernel_rfl) 8 [29, 30, 31, 32, 28, 33, 34, 6] 57 rfl (by kernel_rfl) (Tl.Two 2 3 (BelW w3) (BelW w3) X2) (cuA b1 dg) ((Below.refl _ _).drew)
        ⟨fun l a' W' hsz hl hcl hed hC hF => ?_, fun l a' W' hsz hl hcl hed hC hF => ?_, fun l a' W' hsz hl hcl hed hC hF => ?_, fun l a' W' hsz hl hcl hed hC hF => ?_, fun l a' W' hsz hl hcl hed hC hF => ?_, fun l a' W' hsz hl hcl hed hC hF => ?_, fun l a' W' hsz hl hcl hed hC hF => ?_, fun l a' W' hsz hl hcl hed hC hF => ?_, trivial⟩ ?_
      · exact Tl.sl_v 29 _ rfl (Tl.wanted_none rfl) (hC.other (by decide) (by decide)) rfl (rn_move rfl ((hF 2 (by decide +kernel)).2 (by decide)))
      · have hh := HHAS.out _ (hC.any (Y := fun W => BelW w3 W ∨ X2 W) .inl .inl .inr)
        exact Tl.sl_v 30 _ rfl (Tl.wanted_none rfl) (hC.other (by decide) (by decide)) rfl (rn_load25 rfl ((hF 3 (by decide +kernel)).2 (by decide)) (hh.cell 0) (hh.cell 1))
      · refine Tl.sl_call 9 #[_] (Tl.wanted_none rfl) (rn_call1 rfl rfl rfl (ens9 _)) ((HSM.out W' (hC.first hl)).mono ?_)
        rintro e w'' ⟨rfl, hb⟩
        exact ⟨_, rfl, Tl.Two.did (by decide) hcl (by kernel_rfl) hl (by rw [hsz]; decide) (Below.trans (hC.first hl) (hb.mono (Below.size (hC.first hl)))), fun _ _ _ h => h, fun d hd => by cases hd; rfl⟩
      · refine Tl.sl_call 11 #[_, _, _] (Tl.wanted_none rfl) (rn_call3 rfl rfl ((hF 29 (by decide +kernel)).1 (by decide)) ((hF 30 (by decide +kernel)).1 (by decide)) ((hF 31 (by decide +kernel)).1 (by decide)) (ens11 _)) ((HRD.out W' (hC.second (hed 2 (by kernel_rfl)) hl)).mono ?_)
        rintro e w'' ⟨⟨o, rfl⟩, ha⟩
        exact ⟨_, rfl, Tl.Two.both (by decide) (hed 2 (by kernel_rfl)) (by rw [hsz]; decide) ha, fun _ _ _ h => h, fun d hd => by cases hd; exact ⟨o, rfl⟩⟩
      · obtain ⟨o, ho⟩ : ∃ o : ByteArray, _ = Value.tuple #[.string o, .int .i64 56] := (hF 32 (by decide +kernel)).1 (by decide)
        exact Tl.sl_v 28 _ rfl (Tl.wanted_none rfl) (hC.other (by decide) (by decide)) ⟨o, rfl⟩ (rn_move rfl ho)
      · obtain ⟨o, ho⟩ : ∃ o : ByteArray, _ = Value.tuple #[.string o, .int .i64 56] := (hF 28 (by decide +kernel)).1 (by decide)
        exact Tl.sl_v 33 _ rfl (Tl.wanted_none rfl) (hC.other (by decide) (by decide)) ⟨o, rfl⟩ (rn_ext0 rfl ho)
      · obtain ⟨o, ho⟩ : ∃ o : ByteArray, _ = Value.tuple #[.string o, .int .i64 56] := (hF 28 (by decide +kernel)).1 (by decide)
        exact Tl.sl_v 34 _ rfl (Tl.wanted_none rfl) (hC.other (by decide) (by decide)) rfl (rn_ext1 rfl ho)
      · obtain ⟨o, ho⟩ : ∃ o : ByteArray, _ = Value.string o := (hF 33 (by decide +kernel)).1 (by decide)
        exact Tl.sl_v 6 _ rfl (Tl.wanted_none rfl) (hC.other (by decide) (by decide)) ⟨o, rfl⟩ (rn_assign rfl ho)
      intro kk v w4 hkk hC hv
      have hx := hC.last (hkk 2 (by decide)) (hkk 3 (by decide))
      rw [hX2] at hx
      have v34 : v 34 = .int .i64 56 := hv 34 (by decide)
      obtain ⟨o6, v6⟩ : ∃ o : ByteArray, v 6 = .string o := hv 6 (by decide)
      have HX4 := hid (hx.2.has rfl HX3.out)
      have HW4 := hid hx.1
      clear hkk hC hv HSM HRD HHAS hX2 hx HX3 HW3
      simp only [Tl.fill, List.drop_succ_cons, List.drop_zero, wpList]
      rw [if_pos (Tl.wanted_none rfl)]
      simp only [Act.put, List.setIfInBounds_toArray, List.set_cons_succ, List.set_cons_zero, v34, v6]
      clear v34 v6
      refine .inl (wp_assign (x := .tmp 34) (d := 7) (v := .int .i64 56) ?_ ?_ ?_ ?_)
      · rfl
      · rfl
      · rfl
      simp only [Act.put, List.setIfInBounds_toArray, List.set_cons_succ, List.set_cons_zero]
      go_wp2_with fail
      obtain ⟨V4, hV4⟩ : ∃ V4, V4 = countW V3 := ⟨_, rfl⟩
      have HD4 : Hid (V4.dark = true ∧ V4.l.length = 3 ∧ V4.calls ≤ 900000 ∧ V4.left < 9223372036854775808) := hid (by
        have q1 := count_dark HD3.out
        have q2 := countW_small V3
        have q3 := HOK3.out.calls
        have q4 := HOK3.out.left
        rw [hV4]
        exact ⟨q1.1, by rw [q1.2.1]; exact HL3.out, by omega, by omega⟩)
      rw [← hV4] at HW4
      clear hV4 HD3 HOK3 HL3
      have HSM : Hid (∀ W', BelW w4 W' → Calls Tryz.prog 9 #[.string ⟨#[98, 108, 111, 98]⟩] W' fun e w' => e = .returned (.string (dig blob)) ∧ Below W'.heap.size W' w') := hid fun W' hW => sumB W' ((HW4.out.below hW).lay HLR.out)
      obtain ⟨X2, hX2⟩ : ∃ X2 : World → Prop, X2 = fun W => WT wr W b1 (countW V4) (fun i => i = w1.heap.size) ∧ Kpt (fun i => i = w1.heap.size) w4 W := ⟨_, rfl⟩
      have HHAS : Hid (∀ W, (BelW w4 W ∨ X2 W) → Has W w1.heap.size #[.int .i64 2, .int .i64 3] 25) := hid fun W h => by
        rcases h with h | h
        · exact HX4.out.below h HX4.out.lt
        · rw [hX2] at h
          exact h.2.has rfl HX4.out
      have HRD : Hid (∀ W, BelW w4 W → Calls Tryz.prog 12 #[.pointer (some ⟨b1, 0, none⟩), .agg #[.int .i64 2, .int .i64 3], .string (dig blob)] W fun e w' => e = .returned (.tuple #[.slice none 0 0, .int .i64 56]) ∧ X2 w') := hid fun W hW => by
        have q := shG_dark (K := 2) (N := 3) (d := dig blob) HD4.out.1 HD4.out.2.1
        refine shards_any (HW4.out.below hW) HLR.out 2 3 (dig blob) HD4.out.2.2.1 HD4.out.2.2.2 _ (fun h => absurd (askE_3 HD4.out.2.1) h) (fun _ _ w' hw hk => ?_) (fun _ h => by rw [q.1] at h; exact absurd h (by decide))
        rw [q.2] at hw
        rw [q.1, hX2]
        exact ⟨rfl, hw, (Kpt.below HW4.out hW).trans hk⟩
      generalize dig blob = dg at HSM HRD
      refine Tl.wp_mixL_lit (by kernel_rfl) 8 [36, 37, 38, 39, 35, 40, 41, 8] 57 rfl (by kernel_rfl) (Tl.Two 2 3 (BelW w4) (BelW w4) X2) (cuB b1 dg) ((Below.refl _ _).drew)
        ⟨fun l a' W' hsz hl hcl hed hC hF => ?_, fun l a' W' hsz hl hcl hed hC hF => ?_, fun l a' W' hsz hl hcl hed hC hF => ?_, fun l a' W' hsz hl hcl hed hC hF => ?_, fun l a' W' hsz hl hcl hed hC hF => ?_, fun l a' W' hsz hl hcl hed hC hF => ?_, fun l a' W' hsz hl hcl hed hC hF => ?_, fun l a' W' hsz hl hcl hed hC hF => ?_, trivial⟩ ?_
      · exact Tl.sl_v 36 _ rfl (Tl.wanted_none rfl) (hC.other (by decide) (by decide)) rfl (rn_move rfl ((hF 2 (by decide +kernel)).2 (by decide)))
      · have hh := HHAS.out _ (hC.any (Y := fun W => BelW w4 W ∨ X2 W) .inl .inl .inr)
        exact Tl.sl_v 37 _ rfl (Tl.wanted_none rfl) (hC.other (by decide) (by decide)) rfl (rn_load25 rfl ((hF 3 (by decide +kernel)).2 (by decide)) (hh.cell 0) (hh.cell 1))
      · refine Tl.sl_call 9 #[_] (Tl.wanted_none rfl) (rn_call1 rfl rfl rfl (ens9 _)) ((HSM.out W' (hC.first hl)).mono ?_)
        rintro e w'' ⟨rfl, hb⟩
        exact ⟨_, rfl, Tl.Two.did (by decide) hcl (by kernel_rfl) hl (by rw [hsz]; decide) (Below.trans (hC.first hl) (hb.mono (Below.size (hC.first hl)))), fun _ _ _ h => h, fun d hd => by cases hd; rfl⟩
      · refine Tl.sl_call 12 #[_, _, _] (Tl.wanted_none rfl) (rn_call3 rfl rfl ((hF 36 (by decide +kernel)).1 (by decide)) ((hF 37 (by decide +kernel)).1 (by decide)) ((hF 38 (by decide +kernel)).1 (by decide)) (ens12 _)) ((HRD.out W' (hC.second (hed 2 (by kernel_rfl)) hl)).mono ?_)
        rintro e w'' ⟨rfl, ha⟩
        exact ⟨_, rfl, Tl.Two.both (by decide) (hed 2 (by kernel_rfl)) (by rw [hsz]; decide) ha, fun _ _ _ h => h, fun d hd => by cases hd; rfl⟩
      · exact Tl.sl_v 35 _ rfl (Tl.wanted_none rfl) (hC.other (by decide) (by decide)) rfl (rn_move rfl ((hF 39 (by decide +kernel)).1 (by decide)))
      · exact Tl.sl_v 40 _ rfl (Tl.wanted_none rfl) (hC.other (by decide) (by decide)) rfl (rn_ext0 rfl ((hF 35 (by decide +kernel)).1 (by decide)))
      · exact Tl.sl_v 41 _ rfl (Tl.wanted_none rfl) (hC.other (by decide) (by decide)) rfl (rn_ext1 rfl ((hF 35 (by decide +kernel)).1 (by decide)))
      · exact Tl.sl_v 8 _ rfl (Tl.wanted_none rfl) (hC.other (by decide) (by decide)) rfl (rn_assign rfl ((hF 40 (by decide +kernel)).1 (by decide)))
      intro kk v w5 hkk hC hv
      have hx := hC.last (hkk 2 (by decide)) (hkk 3 (by decide))
      rw [hX2] at hx
      have v41 : v 41 = .int .i64 56 := hv 41 (by decide)
      have v8 : v 8 = .slice none 0 0 := hv 8 (by decide)
      have HW5 := hid hx.1
      have HDK := HW5.out.dark
      rw [(count_dark HD4.out.1).1] at HDK
      unfold ptr at HDK
      clear hkk hC hv HSM HRD HHAS hX2 hx HX4 HW4
      simp only [Tl.fill, List.drop_succ_cons, List.drop_zero, wpList]
      rw [if_pos (Tl.wanted_none rfl)]
      simp only [Act.put, List.setIfInBounds_toArray, List.set_cons_succ, List.set_cons_zero, v41, v8]
      clear v41 v8
      refine .inl (wp_assign (x := .tmp 41) (d := 9) (v := .int .i64 56) ?_ ?_ ?_ ?_)
      · rfl
      · rfl
      · rfl
      simp only [Act.put, List.setIfInBounds_toArray, List.set_cons_succ, List.set_cons_zero]
      go_wp2_with fail
      refine HDK.mono ?_
      clear HDK
      rintro _ _ ⟨rfl, rfl⟩
      have HB5 := hid (HBW.out.trans (HW5.out.base.mono HBW.out.size))
      have hw1 : IntKind.i64.wrap ((k : Int) + 1) = ((k + 1 : Nat) : Int) := wrapN (b := 1) (by have := HK.out; omega)
      clear HW5 HD4 HLR HQ HBW p1 HK
      go_wp2_with fail
      go_roundg g1
      case measure => omega
      case rel => exact ⟨k + 1, by omega, by first | rfl | simp, HB5.out⟩
end Go.Proofs.YtffhobkoagnhhaaGreatDoor
