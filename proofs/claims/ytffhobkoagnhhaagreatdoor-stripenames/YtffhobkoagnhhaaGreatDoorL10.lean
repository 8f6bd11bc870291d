/- Stripe's laws: sound. Printed by gen_l7.py. -/
import Derived.Test.YtffhobkoagnhhaaGreatDoorL6
namespace Go.Proofs.YtffhobkoagnhhaaGreatDoor
open Go.RowKit Go.Maps
open W
set_option linter.unusedVariables false
/-- the blob's digest, not to be reckoned -/
def dgB : ByteArray := dig blob
section
variable {w0 w w' : World} {b : Nat} {V V' : Wd} {T : Nat → Prop}
theorem sumC (w : World) (hl : H.Lay w) : Calls Tryz.prog 9 #[.string ⟨#[98, 108, 111, 98]⟩] w fun e w' => e = .returned (.string dgB) ∧ Below w.heap.size w w' := sumB w hl
theorem row3 {base : Nat} {v : Value} {x y z : Bool} (h : w.ownsRow base 4 1 v 3 (blCells [x, y, z])) : ∃ B c, v = .slice (some ⟨B, 0, none⟩) 3 c ∧ B < w.heap.size ∧ w.cell? ⟨B, 0, none⟩ = some (.bool x) ∧ w.cell? ⟨B, 1, none⟩ = some (.bool y) ∧ w.cell? ⟨B, 2, none⟩ = some (.bool z) := by
  rcases h.2 with ⟨_, h⟩ | ⟨g, cap, cur, rfl, _, hh, hc, _, hs, ht⟩
  · cases h
  · have hH : Has w g cur 4 := hh
    have hg : ∀ j (hj : j < 3), cur[j]? = (blCells [x, y, z])[j]? := fun j hj => by
      rw [← ht, List.getElem?_take_of_lt (by omega)]
      simp
    exact ⟨g, cap, rfl, hH.lt, (hH.cell 0).trans (hg 0 (by omega)), (hH.cell 1).trans (hg 1 (by omega)), (hH.cell 2).trans (hg 2 (by omega))⟩
/-- three flags in block B -/
def Flags (w : World) (B : Nat) (x y z : Bool) : Prop := w.cell? ⟨B, 0, none⟩ = some (.bool x) ∧ w.cell? ⟨B, 1, none⟩ = some (.bool y) ∧ w.cell? ⟨B, 2, none⟩ = some (.bool z)
theorem Flags.kept {B : Nat} {x y z : Bool} (h : Flags w B x y z) (hk : Kpt T w w') (hB : T B) : Flags w' B x y z := by
  have q := hk.2 B hB
  unfold Flags World.cell? at *
  simp only [q]
  exact h
theorem shardsB (h : WT w0 w b V T) (hl : H.Lay w0) (hok : Ok 100 V.l.length V) (hn : V.l.length = 3) {x y z : Bool} (he : shG V 2 3 (dig blob) = (0, V', [x, y, z])) (Q : Ending → World → Prop)
    (hq : ∀ w' B c, WT w0 w' b V' (fun i => T i ∨ i = B) → Kpt T w w' → Flags w' B x y z → Q (.returned (.tuple #[.slice (some ⟨B, 0, none⟩) 3 c, .int .i64 0])) w') : Calls Tryz.prog 12 #[.pointer (some ⟨b, 0, none⟩), .agg #[.int .i64 2, .int .i64 3], .string dgB] w Q := by
  have := shards_any h hl 2 3 (dig blob) (Nat.le_trans hok.calls (by decide)) hok.left Q (fun h => absurd (askE_3 hn) h) (fun _ h => absurd (by rw [he]) h) (fun _ _ w' T' v hw hT hk hr hv hln => by
    rw [he] at hw hr hln
    obtain ⟨B, c, rfl, hB, f⟩ := row3 hr
    refine hq w' B c (hw.sub fun i hi => ?_) hk f
    rcases hi with hi | hi
    · exact hT i hi
    · rw [hi]; exact hv B rfl)
  exact this
theorem putB (h : WT w0 w b V T) (hok : Ok 100 V.l.length V) {i z : Int} {n d : ByteArray} (he : askS V i (fun s => putS s n d) = (z, V')) (Q : Ending → World → Prop) (hq : ∀ w', WT w0 w' b V' T → Kpt T w w' → Q (.returned (.int .i64 z)) w') : Calls Tryz.prog 45 #[.pointer (some ⟨b, 0, none⟩), .int .i64 i, .agg #[.string n, .string d]] w Q := by
  have := h.put (Nat.le_trans hok.calls (by decide)) hok.left hok.fit (by decide) i n d
  rw [he] at this
  refine this.mono ?_
  rintro _ w' ⟨rfl, a1, a2⟩
  exact hq w' a1 a2
theorem getB (h : WT w0 w b V T) (hok : Ok 100 V.l.length V) {i z : Int} {n d : ByteArray} (hs : n.size ≤ 1000000) (he : getW V i n = (d, z)) (ha : askW V i = V') (Q : Ending → World → Prop) (hq : ∀ w', WT w0 w' b V' T → Kpt T w w' → Q (.returned (.tuple #[.string d, .int .i64 z])) w') : Calls Tryz.prog 46 #[.pointer (some ⟨b, 0, none⟩), .int .i64 i, .string n] w Q := by
  have := h.get (Nat.le_trans hok.calls (by decide)) hok.left i n hs
  rw [he, ha] at this
  refine this.mono ?_
  rintro _ w' ⟨rfl, a1, a2⟩
  exact hq w' a1 a2
theorem nameB (w : World) (hl : H.Lay w) (i : Nat) (hi : i ≤ 100) : Calls Tryz.prog 47 #[.string dgB, .int .i64 (i : Int)] w fun e w' => e = .returned (.string (nmS dgB i)) ∧ Below w.heap.size w w' := H.name_any dgB i (by show (dig blob).size ≤ _; rw [dig_len]; decide) (by omega) (by omega) w hl
theorem readB (h : WT w0 w b V T) (hl : H.Lay w0) (hok : Ok 100 V.l.length V) (Q : Ending → World → Prop) (hq : ∀ w' o z V', ReadIs V 2 3 (dig blob) o z V' → WT w0 w' b V' T → Kpt T w w' → Q (.returned (.tuple #[.string o, .int .i64 z])) w') : Calls Tryz.prog 11 #[.pointer (some ⟨b, 0, none⟩), .agg #[.int .i64 2, .int .i64 3], .string dgB] w Q :=
  read_any h hl 2 3 (dig blob) (Nat.le_trans hok.calls (by decide)) hok.left Q hq
end
/-- the second store's shard, bent -/
def bn1 : St := bendS (hd 1) 0 44 1
/-- the object of another code, made -/
def nM : ByteArray := H.mkN 1 3 (dig blob) 1 ⟨#[97, 98, 99, 100, 101, 102]⟩
def oM : ByteArray := H.mkD 1 3 (dig blob) 1 ⟨#[97, 98, 99, 100, 101, 102]⟩
def pm1 : St := (putS bn1 nM oM).2
def n1 : ByteArray := nmS dgB 1
def n0 : ByteArray := nmS dgB 0
def sh0 : ByteArray := shD 2 3 blob 0
def po1 : St := (putS pm1 n1 sh0).2
section
set_option maxRecDepth 100000
theorem makeB (w : World) (hl : H.Lay w) : Calls Tryz.prog 44 #[.agg #[.int .i64 1, .int .i64 3, .string dgB, .int .i64 1, .string ⟨#[97, 98, 99, 100, 101, 102]⟩]] w fun e w' => e = .returned (.tuple #[.agg #[.string nM, .string oM], .int .i64 0]) ∧ Below w.heap.size w w' := by
  have := H.make_any 1 3 (dig blob) 1 ⟨#[97, 98, 99, 100, 101, 102]⟩ w hl
  rw [show H.mkV 1 3 (dig blob) 1 ⟨#[97, 98, 99, 100, 101, 102]⟩ = .tuple #[.agg #[.string nM, .string oM], .int .i64 0] from by
    unfold H.mkV
    rw [show H.mkE 1 3 (dig blob) 1 ⟨#[97, 98, 99, 100, 101, 102]⟩ = 0 from by decide +kernel]
    rfl] at this
  exact this
theorem fit_bn1 : Fit 100 bn1 := fit_of (by decide +kernel) (by decide +kernel) (by decide +kernel) (by decide +kernel) (fun k h => by exact absurd h (by rw [show (bn1).refuse = none from by kernel_rfl]; exact fun h => by cases h)) (fun k h => by exact absurd h (by rw [show (bn1).room = none from by kernel_rfl]; exact fun h => by cases h))
theorem fit_pm1 : Fit 100 pm1 := fit_of (by decide +kernel) (by decide +kernel) (by decide +kernel) (by decide +kernel) (fun k h => by exact absurd h (by rw [show (pm1).refuse = none from by kernel_rfl]; exact fun h => by cases h)) (fun k h => by exact absurd h (by rw [show (pm1).room = none from by kernel_rfl]; exact fun h => by cases h))
theorem fit_po1 : Fit 100 po1 := fit_of (by decide +kernel) (by decide +kernel) (by decide +kernel) (by decide +kernel) (fun k h => by exact absurd h (by rw [show (po1).refuse = none from by kernel_rfl]; exact fun h => by cases h)) (fun k h => by exact absurd h (by rw [show (po1).room = none from by kernel_rfl]; exact fun h => by cases h))
variable (a b c : Nat) (s t u : Bool) (n : Nat)
theorem h1 : strikeW (W3 a b c s t u (hd 0) (hd 1) (hd 2) 9) 3 1 0 44 1 = (0, W3 a b c s (t || true) u (hd 0) bn1 (hd 2) 9) := by kernel_rfl
theorem h2 : shG (W3 a b c s t u (hd 0) bn1 (hd 2) 9) 2 3 (dig blob) = (0, W3 a b c s t u (hd 0) bn1 (hd 2) 12, [true, false, true]) := by kernel_rfl
theorem h3 : askS (W3 a b c s t u (hd 0) bn1 (hd 2) 12) 1 (fun s => putS s nM oM) = (0, W3 a b c s t u (hd 0) pm1 (hd 2) 13) := by kernel_rfl
theorem h4 : shG (W3 a b c s t u (hd 0) pm1 (hd 2) 13) 2 3 (dig blob) = (0, W3 a b c s t u (hd 0) pm1 (hd 2) 16, [true, false, true]) := by kernel_rfl
theorem h5 : getW (W3 a b c s t u (hd 0) pm1 (hd 2) 16) 0 n0 = (sh0, 0) := by kernel_rfl
theorem h6 : askW (W3 a b c s t u (hd 0) pm1 (hd 2) 16) 0 = W3 a b c s t u (hd 0) pm1 (hd 2) 17 := by kernel_rfl
theorem h7 : askS (W3 a b c s t u (hd 0) pm1 (hd 2) 17) 1 (fun s => putS s n1 sh0) = (0, W3 a b c s t u (hd 0) po1 (hd 2) 18) := by kernel_rfl
theorem h8 : shG (W3 a b c s t u (hd 0) po1 (hd 2) 18) 2 3 (dig blob) = (0, W3 a b c s t u (hd 0) po1 (hd 2) 21, [true, false, true]) := by kernel_rfl
theorem h9 : wrG (W3 a b c s t u (hd 0) po1 (hd 2) 21) 2 3 blob = ((dig blob, 0), W3 a b c s t u (hd 0) (hd 1) (hd 2) 28) := by kernel_rfl
theorem h10 : shG (W3 a b c s t u (hd 0) (hd 1) (hd 2) 28) 2 3 (dig blob) = (0, W3 a b c s t u (hd 0) (hd 1) (hd 2) 31, [true, true, true]) := by kernel_rfl
theorem h11 : (found (W3 a b c s t u (hd 0) (hd 1) (hd 2) 31) 2 3 (dig blob)).2.1 = W3 a b c s t u (hd 0) (hd 1) (hd 2) 33 := by kernel_rfl
theorem y9 : callsZ (W3 a b c s t u (hd 0) po1 (hd 2) 21) 2 3 blob = 7 := by unfold callsZ; rw [h9]; rfl
theorem sn3 : (sounds 2 3 (dig blob) 0 (W3 a b c s t u (hd 0) (hd 1) (hd 2) 31).l).length = 3 := by kernel_rfl
end
theorem rd3 {a b c : Nat} {s t u : Bool} {o : ByteArray} {er : Int} {V' : Wd} (h : ReadIs (W3 a b c s t u (hd 0) (hd 1) (hd 2) 31) 2 3 (dig blob) o er V') : o = ⟨#[98, 108, 111, 98]⟩ ∧ er = 0 ∧ V' = W3 a b c s t u (hd 0) (hd 1) (hd 2) 33 := by
  have hk := read_lit (K := 2) (N := 3) lit3 (by decide) rfl (by decide) blob_lt (hon3 hon_hd0 hon_hd1 hon_hd2) h
  rw [bs_blob] at hk
  obtain ⟨_, hk | hk⟩ := hk
  · refine ⟨hk.2.1, hk.2.2, ?_⟩
    rcases h with ⟨h1, _⟩ | ⟨_, _, _, _, h3⟩ | ⟨_, _, h3, _⟩
    · exact absurd (askE_3 rfl) h1
    · rw [h3, h11]
    · rw [h3, h11]
  · rw [sn3] at hk; exact absurd hk.1 (by decide)
end Go.Proofs.YtffhobkoagnhhaaGreatDoor
/- Stripe's laws: sound, walked. Printed by gen_l8.py. -/
namespace Go.Proofs.YtffhobkoagnhhaaGreatDoor
open Go.RowKit Go.Maps
open W
set_option linter.unusedVariables false
set_option maxHeartbeats 8000000 in
set_option maxRecDepth 20000 in
theorem sound_true (w : World) (hl : H.Lay w) (Q : Ending → World → Prop) (hq : ∀ w', Below w.heap.size w w' → Q (.returned (.bool true)) w') : Calls Tryz.prog 15 #[] w Q := by
  have HQ := hid hq
  have HL := hid hl
  have HN0 : Hid (n0.size ≤ 1000000) := hid (by have := (nmS_len dgB (dig_len blob) 0 (by decide)).2; exact Nat.le_trans this (by decide))
  clear hq hl
  go_enter Tryz.func15, Tryz.ntmps15
  go_wp2_with fail
  refine three_any _ _ ?_
  intro b1 V1 w1 h1 hn1 hb1
  obtain ⟨a1, a2, a3, rfl⟩ := hn1.three
  have HLQ : Hid (w.heap.size ≤ w1.heap.size) := hid hb1.size
  have HX1 := hid (Has.new w1 w1.heap.size #[.int .i64 2, .int .i64 3] 25 rfl)
  have HW1 := hid ((h1.new ((Below.refl _ _).alloc (Nat.le_refl _) (.cells #[.int .i64 2, .int .i64 3] 25))).sub (T' := fun i => i = w1.heap.size) fun i hi => .inr ⟨by omega, by rw [hi]; exact HX1.out.lt⟩)
  clear h1 hn1 hb1
  go_wp2_with fail
  refine (sumC _ (HW1.out.lay HL.out)).mono ?_
  rintro _ w2 ⟨rfl, hb2⟩
  have HX2 := hid (HX1.out.below hb2 HX1.out.lt)
  have HW2 := hid (HW1.out.below hb2)
  clear hb2 HX1 HW1
  obtain ⟨c0, c1, f0, f1⟩ := two_cells HX2.out
  go_wp2_with fail
  clear c0 c1 f0 f1
  refine callB HW2.out HL.out (ok3 fit_st0 fit_st0 fit_st0 (by decide)) (by rw [e1]) (z1 ..) _ ?_
  intro w3 h3 k3
  have HX3 := hid (k3.has rfl HX2.out)
  have HW3 := hid h3
  clear h3 k3 HX2 HW2
  go_wp2_with fail
  refine strikeB HW3.out (fit3 fit_hd0 fit_hd1 fit_hd2) (by decide) (h1 ..) _ ?_
  intro w4 h4 k4
  have HX4 := hid (k4.has rfl HX3.out)
  have HW4 := hid h4
  clear h4 k4 HX3 HW3
  obtain ⟨c0, c1, f0, f1⟩ := two_cells HX4.out
  go_wp2_with fail
  clear c0 c1 f0 f1
  refine shardsB HW4.out HL.out (ok3 fit_hd0 fit_bn1 fit_hd2 (by decide)) rfl (h2 ..) _ ?_
  intro w5 B5 d5 h5 k5 f5
  have HX5 := hid (k5.has rfl HX4.out)
  have HW5 := hid (h5.sub (T' := fun i => i = w1.heap.size) fun i hi => .inl hi)
  obtain ⟨y0, y1, y2⟩ := f5
  clear h5 k5 HX4 HW4
  go_wp2_with fail
  clear y0 y1 y2
  refine (makeB _ (HW5.out.lay HL.out)).mono ?_
  rintro _ w6 ⟨rfl, hb6⟩
  have HX6 := hid (HX5.out.below hb6 HX5.out.lt)
  have HW6 := hid (HW5.out.below hb6)
  clear hb6 HX5 HW5
  go_wp2_with fail
  have HXb := hid (HX6.out.alloc (.cells #[.string nM, .string oM] 64))
  have HWb := hid (HW6.out.below ((Below.refl _ _).alloc (Nat.le_refl _) (.cells #[.string nM, .string oM] 64)))
  clear HX6 HW6
  refine putB HWb.out (ok3 fit_hd0 fit_bn1 fit_hd2 (by decide)) (h3 ..) _ ?_
  intro w7 h7 k7
  have HX7 := hid (k7.has rfl HXb.out)
  have HW7 := hid h7
  clear h7 k7 HXb HWb
  obtain ⟨c0, c1, f0, f1⟩ := two_cells HX7.out
  go_wp2_with fail
  clear c0 c1 f0 f1
  refine shardsB HW7.out HL.out (ok3 fit_hd0 fit_pm1 fit_hd2 (by decide)) rfl (h4 ..) _ ?_
  intro w8 B8 d8 h8 k8 f8
  have HX8 := hid (k8.has rfl HX7.out)
  have HW8 := hid (h8.sub (T' := fun i => i = w1.heap.size) fun i hi => .inl hi)
  obtain ⟨y0, y1, y2⟩ := f8
  clear h8 k8 HX7 HW7
  go_wp2_with fail
  clear y0 y1 y2
  refine (nameB _ (HW8.out.lay HL.out) 0 (by decide)).mono ?_
  rintro _ w9 ⟨rfl, hb9⟩
  have HX9 := hid (HX8.out.below hb9 HX8.out.lt)
  have HW9 := hid (HW8.out.below hb9)
  clear hb9 HX8 HW8
  go_wp2_with fail
  refine getB HW9.out (ok3 fit_hd0 fit_pm1 fit_hd2 (by decide)) (n := n0) HN0.out (h5 ..) (h6 ..) _ ?_
  intro w10 h10 k10
  have HX10 := hid (k10.has rfl HX9.out)
  have HW10 := hid h10
  clear h10 k10 HX9 HW9
  go_wp2_with fail
  refine (nameB _ (HW10.out.lay HL.out) 1 (by decide)).mono ?_
  rintro _ w11 ⟨rfl, hb11⟩
  have HX11 := hid (HX10.out.below hb11 HX10.out.lt)
  have HW11 := hid (HW10.out.below hb11)
  clear hb11 HX10 HW10
  go_wp2_with fail
  refine putB HW11.out (ok3 fit_hd0 fit_pm1 fit_hd2 (by decide)) (n := n1) (h7 ..) _ ?_
  intro w12 h12 k12
  have HX12 := hid (k12.has rfl HX11.out)
  have HW12 := hid h12
  clear h12 k12 HX11 HW11
  obtain ⟨c0, c1, f0, f1⟩ := two_cells HX12.out
  go_wp2_with fail
  clear c0 c1 f0 f1
  refine shardsB HW12.out HL.out (ok3 fit_hd0 fit_po1 fit_hd2 (by decide)) rfl (h8 ..) _ ?_
  intro w13 B13 d13 h13 k13 f13
  have HX13 := hid (k13.has rfl HX12.out)
  have HW13 := hid (h13.sub (T' := fun i => i = w1.heap.size) fun i hi => .inl hi)
  obtain ⟨y0, y1, y2⟩ := f13
  clear h13 k13 HX12 HW12
  obtain ⟨c0, c1, f0, f1⟩ := two_cells HX13.out
  go_wp2_with fail
  clear y0 y1 y2
  clear c0 c1 f0 f1
  refine callB HW13.out HL.out (ok3 fit_hd0 fit_po1 fit_hd2 (by decide)) (by rw [h9]) (y9 ..) _ ?_
  intro w14 h14 k14
  have HX14 := hid (k14.has rfl HX13.out)
  have HW14 := hid h14
  clear h14 k14 HX13 HW13
  obtain ⟨c0, c1, f0, f1⟩ := two_cells HX14.out
  go_wp2_with fail
  clear c0 c1 f0 f1
  refine shardsB HW14.out HL.out (ok3 fit_hd0 fit_hd1 fit_hd2 (by decide)) rfl (h10 ..) _ ?_
  intro w15 B15 d15 h15 k15 f15
  have HX15 := hid (k15.has rfl HX14.out)
  have HW15 := hid h15
  have HF15 := hid f15
  clear h15 k15 f15 HX14 HW14
  go_wp2_with fail
  refine callsB HW15.out (m := 31) rfl _ ?_
  obtain ⟨c0, c1, f0, f1⟩ := two_cells HX15.out
  go_wp2_with fail
  clear c0 c1 f0 f1
  refine readB HW15.out HL.out (ok3 fit_hd0 fit_hd1 fit_hd2 (by decide)) _ ?_
  intro w16 o z V16 hr h16 k16
  obtain ⟨rfl, rfl, rfl⟩ := rd3 hr
  have HW16 := hid h16
  obtain ⟨y0, y1, y2⟩ := HF15.out.kept k16 (.inr rfl)
  clear hr h16 k16 HX15 HW15 HF15
  go_wp2_with fail
  clear y0 y1 y2
  refine callsB HW16.out (m := 33) rfl _ ?_
  go_wp2_with fail
  exact HQ.out _ HW16.out.base
end Go.Proofs.YtffhobkoagnhhaaGreatDoor
/- Stripe: no world. -/
namespace Go.Proofs.YtffhobkoagnhhaaGreatDoor
open Go.RowKit Go.Maps
open W
set_option maxHeartbeats 2000000 in
set_option maxRecDepth 20000 in
theorem fits_nil (K N : Int) (w : World) : Calls Tryz.prog 34 #[.pointer none, .agg #[.int .i64 K, .int .i64 N]] w fun e w' => e = .returned (.int .i64 2) ∧ Below w.heap.size w w' := by
  have HB := hid (boxed w (.cells #[.int .i64 K, .int .i64 N] 25))
  go_enter Tryz.func34, Tryz.ntmps34
  go_wp2_with fail
  go_ret
  exact ⟨rfl, HB.out⟩
set_option maxHeartbeats 2000000 in
set_option maxRecDepth 20000 in
theorem mayBe_nil (K N : Int) (d : ByteArray) (w : World) : Calls Tryz.prog 38 #[.pointer none, .agg #[.int .i64 K, .int .i64 N], .string d] w fun e w' => e = .returned (.int .i64 2) ∧ Below w.heap.size w w' := by
  have HB := hid (boxed w (.cells #[.int .i64 K, .int .i64 N] 25))
  go_enter Tryz.func38, Tryz.ntmps38
  go_wp2_with fail
  refine (fits_nil K N _).mono ?_
  rintro _ w1 ⟨rfl, hb⟩
  have HB1 := hid (HB.out.trans (hb.mono HB.out.size))
  clear hb HB
  go_wp2_with fail
  go_ret
  exact ⟨rfl, HB1.out⟩
set_option maxHeartbeats 2000000 in
set_option maxRecDepth 20000 in
theorem write_nil (K N : Int) (d : ByteArray) (w : World) (Q : Ending → World → Prop) (hq : ∀ w', Below w.heap.size w w' → Q (.returned (.tuple #[.string ⟨#[]⟩, .int .i64 2])) w') : Calls Tryz.prog 10 #[.pointer none, .agg #[.int .i64 K, .int .i64 N], .string d] w Q := by
  have HQ := hid hq
  clear hq
  have HB := hid (boxed w (.cells #[.int .i64 K, .int .i64 N] 25))
  go_enter Tryz.func10, Tryz.ntmps10
  go_wp2_with fail
  refine (fits_nil K N _).mono ?_
  rintro _ w1 ⟨rfl, hb⟩
  have HB1 := hid (HB.out.trans (hb.mono HB.out.size))
  clear hb HB
  go_wp2_with fail
  exact HQ.out _ HB1.out
set_option maxHeartbeats 2000000 in
set_option maxRecDepth 20000 in
theorem read_nil (K N : Int) (d : ByteArray) (w : World) (Q : Ending → World → Prop) (hq : ∀ w', Below w.heap.size w w' → Q (.returned (.tuple #[.string ⟨#[]⟩, .int .i64 2])) w') : Calls Tryz.prog 11 #[.pointer none, .agg #[.int .i64 K, .int .i64 N], .string d] w Q := by
  have HQ := hid hq
  clear hq
  have HB := hid (boxed w (.cells #[.int .i64 K, .int .i64 N] 25))
  go_enter Tryz.func11, Tryz.ntmps11
  go_wp2_with fail
  refine (mayBe_nil K N d _).mono ?_
  rintro _ w1 ⟨rfl, hb⟩
  have HB1 := hid (HB.out.trans (hb.mono HB.out.size))
  clear hb HB
  go_wp2_with fail
  exact HQ.out _ HB1.out
set_option maxHeartbeats 2000000 in
set_option maxRecDepth 20000 in
theorem shards_nil (K N : Int) (d : ByteArray) (w : World) (Q : Ending → World → Prop) (hq : ∀ w', Below w.heap.size w w' → Q (.returned (.tuple #[.slice none 0 0, .int .i64 2])) w') : Calls Tryz.prog 12 #[.pointer none, .agg #[.int .i64 K, .int .i64 N], .string d] w Q := by
  have HQ := hid hq
  clear hq
  have HB := hid (boxed w (.cells #[.int .i64 K, .int .i64 N] 25))
  go_enter Tryz.func12, Tryz.ntmps12
  go_wp2_with fail
  refine (mayBe_nil K N d _).mono ?_
  rintro _ w1 ⟨rfl, hb⟩
  have HB1 := hid (HB.out.trans (hb.mono HB.out.size))
  clear hb HB
  go_wp2_with fail
  exact HQ.out _ HB1.out
end Go.Proofs.YtffhobkoagnhhaaGreatDoor
/- Stripe's laws: what is refused of StripeNames, reckoned. -/
namespace Go.Proofs.YtffhobkoagnhhaaGreatDoor
open Go.RowKit Go.Maps
open W
variable {V : Wd}
theorem fit_not {K N : Int} (h : ¬ (C.Mx.mayC K N = true ∧ N = (V.l.length : Int))) : fitE V K N = 1 := by
  unfold fitE
  rw [if_neg h]
theorem fit_3 (hn : V.l.length = 3) : fitE V 2 3 = 0 := by
  unfold fitE
  rw [if_pos ⟨by decide, by rw [hn]; rfl⟩]
theorem wr_not {K N : Int} {bl : List Nat} (h : fitE V K N = 1) : wrG V K N bl = ((⟨#[]⟩, 1), V) := by
  unfold wrG
  rw [h, if_pos (by decide)]
theorem k1 (hn : V.l.length = 3) : wrG V 2 2 [] = ((⟨#[]⟩, 1), V) := wr_not (fit_not fun h => by rw [hn] at h; exact absurd h.2 (by decide))
theorem k2 : wrG V 4 3 [] = ((⟨#[]⟩, 1), V) := wr_not (fit_not fun h => by exact absurd h.1 (by decide))
theorem k3 (hn : V.l.length = 3) : wrG V 2 3 (List.replicate 32769 0) = ((⟨#[]⟩, 40), V) := by
  have he : C.errE 2 3 (List.replicate 32769 0) = 40 := by
    unfold C.errE
    rw [if_pos (by decide), List.length_replicate, if_neg (by decide)]
  unfold wrG
  rw [fit_3 hn, if_neg (by decide), he, if_pos (by decide)]
theorem ask_not {K N : Int} {d : ByteArray} (h : fitE V K N = 1) : askE V K N d = 1 := by
  unfold askE
  rw [h]
  rfl
theorem ask_size {d : ByteArray} (hn : V.l.length = 3) (hd : d.size ≠ 32) : askE V 2 3 d = 1 := by
  unfold askE
  rw [fit_3 hn, if_pos rfl, if_neg hd]
theorem rd_not {K N : Int} {d o : ByteArray} {z : Int} {V' : Wd} (h : askE V K N d = 1) (hr : ReadIs V K N d o z V') : z = 1 ∧ V' = V := by
  rcases hr with ⟨_, _, h2, h3⟩ | ⟨h1, _⟩ | ⟨h1, _⟩
  · exact ⟨by rw [h2, h], h3⟩
  · rw [h] at h1; exact absurd h1 (by decide)
  · rw [h] at h1; exact absurd h1 (by decide)
section
variable {a b c : Nat} {s t u : Bool}
set_option maxRecDepth 100000
theorem hon_st0 : Hon 0 st0 := hon_none (by decide +kernel)
theorem hon_st1 : Hon 1 st0 := hon_none (by decide +kernel)
theorem hon_st2 : Hon 2 st0 := hon_none (by decide +kernel)
theorem sn4 : (sounds 2 3 (dig blob) 0 (W3 a b c s t u st0 st0 st0 0).l).length = 0 := by kernel_rfl
theorem fd4 : (found (W3 a b c s t u st0 st0 st0 0) 2 3 (dig blob)).2.1 = W3 a b c s t u st0 st0 st0 3 := by kernel_rfl
theorem rd4 {o : ByteArray} {er : Int} {V' : Wd} (h : ReadIs (W3 a b c s t u st0 st0 st0 0) 2 3 (dig blob) o er V') : er = 54 ∧ V' = W3 a b c s t u st0 st0 st0 3 := by
  obtain ⟨_, hk | hk⟩ := read_lit (K := 2) (N := 3) lit3 (by decide) rfl (by decide) blob_lt (hon3 hon_st0 hon_st1 hon_st2) h
  · rw [sn4] at hk; exact absurd hk.1 (by decide)
  · refine ⟨hk.2.2, ?_⟩
    rcases h with ⟨h1, _⟩ | ⟨_, _, _, _, h3⟩ | ⟨_, _, h3, _⟩
    · exact absurd (askE_3 rfl) h1
    · rw [h3, fd4]
    · rw [h3, fd4]
end
end Go.Proofs.YtffhobkoagnhhaaGreatDoor
