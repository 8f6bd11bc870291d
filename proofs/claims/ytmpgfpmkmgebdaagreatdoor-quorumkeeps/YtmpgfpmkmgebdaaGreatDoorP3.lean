/- The contract of Make. -/
import Derived.Test.YtmpgfpmkmgebdaaGreatDoorFF4
import Derived.Lib.ConvBytes
import Derived.Lib.AtoiErrMem
import Derived.Test.YtmpgfpmkmgebdaaGreatDoorFF2
import Derived.Laws.StructEq
import Derived.BigQuiet
namespace Go.Proofs.YtmpgfpmkmgebdaaGreatDoor.F
open Go.RowKit
/-- the bytes, put together -/
theorem dat_is (E G K N : Nat) (p : ByteArray) (hK : K < 256) (hN : N < 256) : ⟨#[109, 97, 110, 49]⟩ ++ (ofBs (be4 E) ++ ofBs (be4 G)) ++ ofBs [K, N] ++ ofBs (be4 p.size) ++ p = ofBs (pre E G K N (bs p)) ∧ bs (ofBs (pre E G K N (bs p))) = pre E G K N (bs p) := by
  refine ⟨?_, bs_ofBs _ (pre_lt hK hN (bs_lt p))⟩
  unfold pre
  rw [ofBs_append, ofBs_append, ofBs_append, ofBs_append, ofBs_append, ofBs_bs, bs_length]
  rfl
theorem written_any (E G K N : Nat) (p : ByteArray) (hE : E < 2147483648) (hG : G < 2147483648) (hK : K < 256) (hN : N < 256) (hp : p.size ≤ 65536) (w : World) (ht : Tabs w) :
    Calls Tryz.prog 67 #[.agg (frc E G K N p)] w fun e w' => e = .returned (.string (ofBs (dat E G K N (bs p)))) ∧ Below w.heap.size w w' := by
  obtain ⟨h1, h2⟩ := dat_is E G K N p hK hN
  refine written_aux E G K N p hE hG hK hN hp w ht _ _ _ _ _ _ _ _ _ _ _ rfl rfl rfl rfl rfl rfl rfl rfl rfl rfl ?_
  unfold Hid
  rw [h1, h2, ← ofBs_append]
  rfl
set_option maxRecDepth 20000 in
theorem make_arg (E G K N : Int) (p : ByteArray) (h : okF E G K N = false) (w : World) :
    Calls Tryz.prog 36 #[.agg (frc E G K N p)] w fun e w' => e = .returned (.tuple #[.string ⟨#[]⟩, .int .i64 1]) ∧ Below w.heap.size w w' := by
  have T0 : WtW (frc E G K N p) w (w.alloc (.cells (frc E G K N p) 85)) := ⟨Has.new _ _ _ _ rfl, (Below.refl _ _).alloc (Nat.le_refl _) _⟩
  unfold okF at h
  unfold frc
  go_enter Tryz.func36, Tryz.ntmps36
  go_wp2_with fail
  refine (count_any E _).mono ?_
  rintro e w1 ⟨rfl, rfl⟩
  by_cases h1 : okN E = true
  · rw [h1]
    go_wp2_with fail
    refine (count_any G _).mono ?_
    rintro e w1 ⟨rfl, rfl⟩
    by_cases h2 : okN G = true
    · rw [h2]
      go_wp2_with fail
      refine (code_any K N _).mono ?_
      rintro e w2 ⟨rfl, b2⟩
      have T2 := T0.next b2
      have h3 : okC K N = false := by rw [h1, h2] at h; simpa using h
      rw [h3]
      go_wp2_with fail
      go_ret2
      exact ⟨rfl, T2.bl⟩
    · have h2 : okN G = false := by simpa using h2
      rw [h2]
      go_wp2_with fail
      go_ret2
      exact ⟨rfl, T0.bl⟩
  · have h1 : okN E = false := by simpa using h1
    rw [h1]
    go_wp2_with fail
    go_ret2
    exact ⟨rfl, T0.bl⟩
set_option maxRecDepth 20000 in
theorem make_big (E G K N : Int) (p : ByteArray) (h : okF E G K N = true) (hp : 65486 < p.size) (w : World) :
    Calls Tryz.prog 36 #[.agg (frc E G K N p)] w fun e w' => e = .returned (.tuple #[.string ⟨#[]⟩, .int .i64 40]) ∧ Below w.heap.size w w' := by
  have T0 : WtW (frc E G K N p) w (w.alloc (.cells (frc E G K N p) 85)) := ⟨Has.new _ _ _ _ rfl, (Below.refl _ _).alloc (Nat.le_refl _) _⟩
  have q0 : (65486 : Int) < (p.size : Int) := by omega
  unfold okF at h
  simp only [Bool.and_eq_true] at h
  obtain ⟨⟨h1, h2⟩, h3⟩ := h
  unfold frc
  go_enter Tryz.func36, Tryz.ntmps36
  go_wp2_with fail
  refine (count_any E _).mono ?_
  rintro e w1 ⟨rfl, rfl⟩
  rw [h1]
  go_wp2_with fail
  refine (count_any G _).mono ?_
  rintro e w1 ⟨rfl, rfl⟩
  rw [h2]
  go_wp2_with fail
  refine (code_any K N _).mono ?_
  rintro e w2 ⟨rfl, b2⟩
  have T2 := T0.next b2
  obtain ⟨c0, c1, c2, c3, c4⟩ := frc_cells T2.hs
  rw [h3]
  go_wp2_with fail
  go_ret2
  exact ⟨rfl, T2.bl⟩
set_option maxRecDepth 20000 in
theorem make_ok (E G K N : Int) (p : ByteArray) (h : okF E G K N = true) (hp : p.size ≤ 65486) (w : World) (ht : Tabs w) :
    Calls Tryz.prog 36 #[.agg (frc E G K N p)] w fun e w' => e = .returned (.tuple #[.string (ofBs (dat E.toNat G.toNat K.toNat N.toNat (bs p))), .int .i64 0]) ∧ Below w.heap.size w w' := by
  have T0 : WtW (frc E G K N p) w (w.alloc (.cells (frc E G K N p) 85)) := ⟨Has.new _ _ _ _ rfl, (Below.refl _ _).alloc (Nat.le_refl _) _⟩
  have q0 : ¬ (65486 : Int) < (p.size : Int) := by omega
  obtain ⟨e, g, k, n, rfl, rfl, rfl, rfl, p1, p2, p3, p4, p5⟩ := okF_is h
  simp only [Int.toNat_natCast]
  have HW : Hid (∀ W, Tabs W → Calls Tryz.prog 67 #[.agg (frc e g k n p)] W fun e' w' => e' = .returned (.string (ofBs (dat e g k n (bs p)))) ∧ Below W.heap.size W w') := fun W hW => written_any e g k n p p1 p2 (by omega) (by omega) (by omega) W hW
  generalize ofBs (dat e g k n (bs p)) = Y at *
  unfold okF at h
  simp only [Bool.and_eq_true] at h
  obtain ⟨⟨h1, h2⟩, h3⟩ := h
  clear p1 p2 p3 p4 p5
  unfold frc at *
  go_enter Tryz.func36, Tryz.ntmps36
  go_wp2_with fail
  refine (count_any e _).mono ?_
  rintro e1 w1 ⟨rfl, rfl⟩
  rw [h1]
  go_wp2_with fail
  refine (count_any g _).mono ?_
  rintro e1 w1 ⟨rfl, rfl⟩
  rw [h2]
  go_wp2_with fail
  refine (code_any k n _).mono ?_
  rintro e1 w2 ⟨rfl, b2⟩
  have T2 := T0.next b2
  have t2 := ht.below' T2.bl
  obtain ⟨c0, c1, c2, c3, c4⟩ := frc_cells T2.hs
  rw [h3]
  go_wp2_with fail
  refine (HW.out w2 t2).mono ?_
  rintro e1 w3 ⟨rfl, b3⟩
  have T3 := T2.next b3
  go_wp2_with fail
  go_ret2
  exact ⟨rfl, T3.bl⟩
/-- MAKE. -/
theorem make_any (E G K N : Int) (p : ByteArray) (w : World) (ht : Tabs w) :
    Calls Tryz.prog 36 #[.agg (frc E G K N p)] w fun e w' => e = .returned (.tuple #[.string (mkD E G K N p), .int .i64 (mkE E G K N p)]) ∧ Below w.heap.size w w' := by
  unfold mkD mkE
  by_cases h : okF E G K N = true
  · by_cases hp : p.size ≤ 65486
    · simp only [h, hp, if_true]
      exact make_ok E G K N p h hp w ht
    · simp only [h, hp, if_true, if_false]
      exact make_big E G K N p h (by omega) w
  · have h' : okF E G K N = false := by simpa using h
    simp only [h', Bool.false_eq_true, if_false]
    exact make_arg E G K N p h' w
end Go.Proofs.YtmpgfpmkmgebdaaGreatDoor.F
/- The contract of Read. -/
namespace Go.Proofs.YtmpgfpmkmgebdaaGreatDoor.F
open Go.RowKit
set_option maxRecDepth 20000 in
theorem read_long (s : ByteArray) (h : s.size < 50 ∨ 65536 < s.size) (w : World) :
    Calls Tryz.prog 78 #[.string s] w fun e w' => e = .returned (.tuple #[.agg noF, .int .i64 4]) ∧ Below w.heap.size w w' := by
  have h2 : Has (w.alloc (.cells noF 85)) w.heap.size noF 85 := Has.new _ _ _ _ rfl
  have h3 : Below w.heap.size w (w.alloc (.cells noF 85)) := (Below.refl _ _).alloc (Nat.le_refl _) _
  go_enter Tryz.func78, Tryz.ntmps78
  by_cases q : s.size < 50
  · have q0 : (s.size : Int) < 50 := by omega
    go_wp2_with fail
    exact ret_frame Tryz.results78 rfl rfl rfl h2 ⟨rfl, h3⟩
  · have q0 : ¬ (s.size : Int) < 50 := by omega
    have q1 : (65536 : Int) < (s.size : Int) := by omega
    go_wp2_with fail
    exact ret_frame Tryz.results78 rfl rfl rfl h2 ⟨rfl, h3⟩
/-- the memory of Read: the frame that is told -/
structure RdW (w W : World) : Prop where
  hr : Has W w.heap.size noF 85
  bl : Below w.heap.size w W
theorem RdW.next {w W W' : World} (h : RdW w W) (hb : Below W.heap.size W W') : RdW w W' :=
  ⟨h.hr.below hb h.hr.lt, belowCall h.bl hb⟩
theorem bytes_told (w : World) (s : ByteArray) : ∃ W cap, (convert 9 141 (.string s)).run Tryz.prog w = .ok (.slice (some ⟨w.heap.size, 0, none⟩) s.size cap) W ∧ BRow W w.heap.size (bs s) ∧ Below w.heap.size w W ∧ s.size ≤ cap :=
  ⟨_, _, Lib.run_convert_string_bytes (P := Tryz.prog) w 9 141 5 s Tryz.underlying9 Tryz.underlying141 Tryz.underlying5, brow_new w s, Lib.bytesWorld_below w 5 s, by have := grownCap_ge w s.size 0 5; omega⟩
theorem told_str (s : ByteArray) (h1 : 50 ≤ s.size) (h2 : s.size ≤ 65536) (g cap : Nat) (W : World) (hb : BRow W g (bs s)) (hc : s.size ≤ cap) :
    Calls Tryz.prog 103 #[.slice (some ⟨g, 0, none⟩) s.size cap] W fun e w' => e = .returned (.agg (frc (fN s 4) (fN s 8) (fB s 12) (fB s 13) (fP s))) ∧ Below W.heap.size W w' := by
  have := told_any g s.size cap (bs s) W hb (bs_length s) (bs_lt s) h1 (by omega) hc
  have e : ofBs (((bs s).drop 18).take (s.size - 50)) = fP s := by
    rw [← ofBs_bs (fP s)]
    unfold fP
    rw [bs_extract, List.drop_take, Nat.sub_sub]
  rw [e] at this
  exact this
set_option maxRecDepth 20000 in
set_option maxHeartbeats 1000000 in
theorem read_mid (s : ByteArray) (h1 : 50 ≤ s.size) (h2 : s.size ≤ 65536) (w : World) (ht : Tabs w) :
    Calls Tryz.prog 78 #[.string s] w fun e w' => e = .returned (rdV s) ∧ Below w.heap.size w w' := by
  have q0 : ¬ (s.size : Int) < 50 := by omega
  have q1 : ¬ (65536 : Int) < (s.size : Int) := by omega
  have HM : Hid (∀ W, Tabs W → Calls Tryz.prog 36 #[.agg (frc (fN s 4) (fN s 8) (fB s 12) (fB s 13) (fP s))] W fun e w' => e = .returned (.tuple #[.string (mkD (fN s 4) (fN s 8) (fB s 12) (fB s 13) (fP s)), .int .i64 (mkE (fN s 4) (fN s 8) (fB s 12) (fB s 13) (fP s))]) ∧ Below W.heap.size W w') := fun W hW => make_any _ _ _ _ _ W hW
  have HT : Hid (∀ g cap W, BRow W g (bs s) → s.size ≤ cap → Calls Tryz.prog 103 #[.slice (some ⟨g, 0, none⟩) s.size cap] W fun e w' => e = .returned (.agg (frc (fN s 4) (fN s 8) (fB s 12) (fB s 13) (fP s))) ∧ Below W.heap.size W w') := fun g cap W hb hc => told_str s h1 h2 g cap W hb hc
  have HR : Hid (rdV s = if (mkE (fN s 4) (fN s 8) (fB s 12) (fB s 13) (fP s) = 0 ∧ mkD (fN s 4) (fN s 8) (fB s 12) (fB s 13) (fP s) = s) then .tuple #[.agg (frc (fN s 4) (fN s 8) (fB s 12) (fB s 13) (fP s)), .int .i64 0] else .tuple #[.agg noF, .int .i64 4]) := by
    unfold Hid rdV rdOk
    simp only [h1, decide_true, Bool.true_and, Bool.and_eq_true, decide_eq_true_eq]
  rw [HR.out]
  clear HR
  generalize mkD (fN s 4) (fN s 8) (fB s 12) (fB s 13) (fP s) = Y at *
  generalize mkE (fN s 4) (fN s 8) (fB s 12) (fB s 13) (fP s) = R at *
  generalize fN s 4 = E at *
  generalize fN s 8 = G at *
  generalize fB s 12 = K at *
  generalize fB s 13 = N at *
  generalize fP s = p at *
  obtain ⟨W0, cap, hc, hbr, hbl, hcap⟩ := bytes_told (w.alloc (.cells noF 85)) s
  have hz : (w.alloc (.cells noF 85)).heap.size = w.heap.size + 1 := by simp
  rw [hz] at hc hbr
  have R0 : RdW w W0 := ⟨(Has.new w _ noF 85 rfl).below hbl (by rw [hz]; omega), belowCall ((Below.refl _ _).alloc (Nat.le_refl _) _) hbl⟩
  unfold noF frc at hc
  clear hbl hz
  go_enter Tryz.func78, Tryz.ntmps78
  go_wp2_with fail
  refine (HT.out _ _ _ hbr hcap).mono ?_
  rintro e w1 ⟨rfl, b1⟩
  have R1 := R0.next b1
  clear b1 HT R0 hc hbr hcap
  unfold frc
  go_wp2_with fail
  have b1 : Below w1.heap.size w1 (w1.alloc (.cells (frc E G K N p) 85)) := (Below.refl _ _).alloc (Nat.le_refl _) _
  have R2 := R1.next b1
  have S2 : Has (w1.alloc (.cells (frc E G K N p) 85)) w1.heap.size (frc E G K N p) 85 := Has.new _ _ _ _ rfl
  refine (HM.out _ (ht.below' R2.bl)).mono ?_
  rintro e w2 ⟨rfl, b2⟩
  have R3 := R2.next b2
  have S3 := S2.below b2 S2.lt
  clear b2 b1 R2 S2 R1 HM
  obtain ⟨c0, c1, c2, c3, c4⟩ := frc_cells R3.hr
  obtain ⟨f0, f1, f2, f3, f4⟩ := frc_free R3.hr
  obtain ⟨s0, s1, s2, s3, s4⟩ := frc_cells S3
  by_cases hE : R = 0
  · subst hE
    by_cases hY : Y = s
    · subst hY
      go_wp2_with fail
      exact ret_frame Tryz.results78 rfl rfl rfl (frc_put R3.hr _ _ _ _ _) ⟨by first | rfl | (rw [if_neg (fun h => hE h.1)]; rfl), below_put5 R3.bl (by omega) _ _ _ _ _⟩
    · have qY : (Y.toList == s.toList) = false := str_ne fun e => hY (bs_inj e)
      go_wp2_with fail
      exact ret_frame Tryz.results78 rfl rfl rfl (frc_put R3.hr _ _ _ _ _) ⟨by first | rfl | (rw [if_neg (fun h => hE h.1)]; rfl), below_put5 R3.bl (by omega) _ _ _ _ _⟩
  · have qE : (R != 0) = true := by rw [bne_iff_ne]; exact hE
    go_wp2_with fail
    exact ret_frame Tryz.results78 rfl rfl rfl (frc_put R3.hr _ _ _ _ _) ⟨by first | rfl | (rw [if_neg (fun h => hE h.1)]; rfl), below_put5 R3.bl (by omega) _ _ _ _ _⟩
theorem rd_size {s : ByteArray} (h : rdOk s = true) : 50 ≤ s.size ∧ s.size ≤ 65536 := by
  obtain ⟨e, g, k, n, _, _, _, _, hd⟩ := rd_is h
  have h1 := hd.size
  have h2 := hd.hp
  omega
/-- READ. -/
theorem read_any (s : ByteArray) (w : World) (ht : Tabs w) :
    Calls Tryz.prog 78 #[.string s] w fun e w' => e = .returned (rdV s) ∧ Below w.heap.size w w' := by
  by_cases h : 50 ≤ s.size ∧ s.size ≤ 65536
  · exact read_mid s h.1 h.2 w ht
  · have e : rdV s = .tuple #[.agg noF, .int .i64 4] := by
      unfold rdV
      rw [if_neg]
      exact fun hk => h (rd_size hk)
    rw [e]
    exact read_long s (by omega) w
end Go.Proofs.YtmpgfpmkmgebdaaGreatDoor.F
/- Quorum: the world and what lies beside it; how great it is. -/
namespace Go.Proofs.YtmpgfpmkmgebdaaGreatDoor
open Go.RowKit Go.Maps
open W
set_option linter.unusedVariables false
variable {w0 w w' : World} {b : Nat} {V V' : Wd} {T : Nat → Prop}
/-- the world V lies in block b, made since w0; the blocks of T are none of it -/
def WT (w0 w : World) (b : Nat) (V : Wd) (T : Nat → Prop) : Prop := ∃ S g, IsWd w S b g V ∧ (∀ i, S i → w0.heap.size ≤ i) ∧ Below w0.heap.size w0 w ∧ ∀ i, T i → ¬ S i ∧ i < w.heap.size
/-- the blocks of T stand as they stood -/
def Kpt (T : Nat → Prop) (w w' : World) : Prop := w.heap.size ≤ w'.heap.size ∧ ∀ i, T i → w'.heap[i]? = w.heap[i]?
theorem Kpt.trans {w1 w2 w3 : World} (h : Kpt T w1 w2) (k : Kpt T w2 w3) : Kpt T w1 w3 := ⟨Nat.le_trans h.1 k.1, fun i hi => (k.2 i hi).trans (h.2 i hi)⟩
theorem Kpt.sub {T' : Nat → Prop} (h : Kpt T w w') (hT : ∀ i, T' i → T i) : Kpt T' w w' := ⟨h.1, fun i hi => h.2 i (hT i hi)⟩
theorem Kpt.below (h : WT w0 w b V T) (hb : Below w.heap.size w w') : Kpt T w w' := by
  obtain ⟨S, g, _, _, _, h4⟩ := h
  exact ⟨hb.size, fun i hi => hb.block i (h4 i hi).2⟩
theorem WT.base (h : WT w0 w b V T) : Below w0.heap.size w0 w := by
  obtain ⟨S, g, _, _, h3, _⟩ := h
  exact h3
theorem WT.lt (h : WT w0 w b V T) : ∀ i, T i → i < w.heap.size := by
  obtain ⟨S, g, _, _, _, h4⟩ := h
  exact fun i hi => (h4 i hi).2
theorem WT.lay (h : WT w0 w b V T) (hl : F.Lay w0) : F.Lay w := hl.below h.base
theorem WT.sub {T' : Nat → Prop} (h : WT w0 w b V T) (hT : ∀ i, T' i → T i) : WT w0 w b V T' := by
  obtain ⟨S, g, h1, h2, h3, h4⟩ := h
  exact ⟨S, g, h1, h2, h3, fun i hi => h4 i (hT i hi)⟩
theorem WT.below (h : WT w0 w b V T) (hb : Below w.heap.size w w') : WT w0 w' b V T := by
  obtain ⟨S, g, h1, h2, h3, h4⟩ := h
  exact ⟨S, g, h1.below hb, h2, h3.trans (hb.mono h3.size), fun i hi => ⟨(h4 i hi).1, Nat.lt_of_lt_of_le (h4 i hi).2 hb.size⟩⟩
/-- what was made since is none of it -/
theorem WT.new (h : WT w0 w b V T) (hb : Below w.heap.size w w') : WT w0 w' b V (fun i => T i ∨ (w.heap.size ≤ i ∧ i < w'.heap.size)) := by
  obtain ⟨S, g, h1, h2, h3, h4⟩ := h
  refine ⟨S, g, h1.below hb, h2, h3.trans (hb.mono h3.size), fun i hi => ?_⟩
  rcases hi with hi | hi
  · exact ⟨(h4 i hi).1, Nat.lt_of_lt_of_le (h4 i hi).2 hb.size⟩
  · exact ⟨fun hS => by have := h1.bound i hS; omega, hi.2⟩
theorem WT.go (h : WT w0 w b V T) : ∃ S g, IsWd w S b g V ∧ (∀ i, S i → w0.heap.size ≤ i) ∧ ∀ w' V', AfterW w w' S b g V' → WT w0 w' b V' T ∧ Kpt T w w' := by
  obtain ⟨S, g, h1, h2, h3, h4⟩ := h
  refine ⟨S, g, h1, h2, fun w' V' ⟨S', a1, a2, a3⟩ => ⟨⟨S', g, a1, fun i hi => ?_, h3.trans (a3.below h3.size h2), fun i hi => ⟨fun hS => ?_, Nat.lt_of_lt_of_le (h4 i hi).2 a3.size⟩⟩, a3.size, fun i hi => a3.block i (h4 i hi).2 (h4 i hi).1⟩⟩
  · rcases a2 i hi with h | h
    · exact h2 i h
    · exact Nat.le_trans h3.size h
  · rcases a2 i hS with h | h
    · exact (h4 i hi).1 h
    · have := (h4 i hi).2
      omega
theorem WT.n (h : WT w0 w b V T) : Calls Tryz.prog 42 #[ptr b] w fun e w' => e = .returned (.int .i64 (V.l.length : Int)) ∧ w' = w := by
  obtain ⟨S, g, h1, _⟩ := h
  exact n_any h1
theorem WT.get (h : WT w0 w b V T) (hc : V.calls ≤ 1000000) (hl : V.left < 9223372036854775808) (i : Int) (n : ByteArray) (hn : n.size ≤ 1000000) : Calls Tryz.prog 49 #[ptr b, .int .i64 i, .string n] w fun e w' => e = .returned (.tuple #[.string (getW V i n).1, er (getW V i n).2]) ∧ WT w0 w' b (askW V i) T ∧ Kpt T w w' := by
  obtain ⟨S, g, h1, _, k⟩ := h.go
  exact (wget_any h1 hc hl i n hn).mono fun _ _ ⟨e1, e2⟩ => ⟨e1, k _ _ e2⟩
theorem WT.put (h : WT w0 w b V T) (hc : V.calls ≤ 1000000) (hl : V.left < 9223372036854775808) {N : Nat} (hF : ∀ x ∈ V.l, Fit N x.st) (hN : N ≤ 1000000) (i : Int) (n d : ByteArray) : Calls Tryz.prog 69 #[ptr b, .int .i64 i, obv n d] w fun e w' => e = .returned (er (askS V i fun s => putS s n d).1) ∧ WT w0 w' b (askS V i fun s => putS s n d).2 T ∧ Kpt T w w' := by
  obtain ⟨S, g, h1, _, k⟩ := h.go
  exact (wput_any h1 hc hl hF hN i n d).mono fun _ _ ⟨e1, e2⟩ => ⟨e1, k _ _ e2⟩
theorem WT.sync (h : WT w0 w b V T) (hc : V.calls ≤ 1000000) (hl : V.left < 9223372036854775808) (i : Int) : Calls Tryz.prog 70 #[ptr b, .int .i64 i] w fun e w' => e = .returned (er (askS V i W.sync).1) ∧ WT w0 w' b (askS V i W.sync).2 T ∧ Kpt T w w' := by
  obtain ⟨S, g, h1, _, k⟩ := h.go
  exact (wsync_any h1 hc hl i).mono fun _ _ ⟨e1, e2⟩ => ⟨e1, k _ _ e2⟩
/-- a block of T holds what it held -/
theorem Kpt.has (h : Kpt T w w') {q : Nat} (hq : T q) {cs : Array Value} {t : TypeId} (hh : Has w q cs t) : Has w' q cs t := by
  have := h.2 q hq
  unfold Has at *
  rw [this]
  exact hh
theorem countW_small (V : Wd) : (countW V).calls = V.calls + 1 ∧ (countW V).left ≤ V.left ∧ (countW V).l = V.l := by
  unfold countW
  split
  · split
    · exact ⟨rfl, Nat.le_refl _, rfl⟩
    · exact ⟨rfl, Nat.sub_le _ _, rfl⟩
  · exact ⟨rfl, Nat.le_refl _, rfl⟩
theorem askW_small (V : Wd) (i : Int) : (askW V i).calls ≤ V.calls + 1 ∧ (askW V i).left ≤ V.left ∧ (askW V i).l = V.l := by
  unfold askW
  split
  · exact ⟨Nat.le_of_eq (countW_small V).1, (countW_small V).2⟩
  · exact ⟨Nat.le_succ _, Nat.le_refl _, rfl⟩
/-- a world of n stores, none of which is too great -/
structure Ok (M n : Nat) (V : Wd) : Prop where
  len : V.l.length = n
  fit : ∀ x ∈ V.l, Fit M x.st
  calls : V.calls ≤ M
  left : V.left < 9223372036854775808
theorem Fit.up {M M' : Nat} {s : St} (h : Fit M s) (hM : M ≤ M') : Fit M' s := { h with seen := Nat.le_trans h.seen hM, writes := Nat.le_trans h.writes hM }
theorem Ok.more {M M' n : Nat} (h : Ok M n V) (hM : M ≤ M') : Ok M' n V := ⟨h.len, fun x hx => Fit.up (h.fit x hx) hM, Nat.le_trans h.calls hM, h.left⟩
theorem Ok.count {M n : Nat} (h : Ok M n V) : Ok (M + 1) n (countW V) := by
  have hs := countW_small V
  have hl := h.left
  have hc := h.calls
  exact ⟨by rw [hs.2.2]; exact h.len, fun x hx => Fit.up (h.fit x (by rw [hs.2.2] at hx; exact hx)) (Nat.le_succ _), by omega, by omega⟩
theorem Ok.get {M n : Nat} (h : Ok M n V) (i : Int) : Ok (M + 1) n (askW V i) := by
  unfold askW
  split
  · exact h.count
  · exact h.more (Nat.le_succ _)
theorem Ok.ask {M n : Nat} (h : Ok M n V) (i : Int) {f : St → Int × St} (hf : ∀ s, Fit M s → Fit (M + 1) (f s).2) : Ok (M + 1) n (askS V i f).2 := by
  unfold askS
  split
  · split
    · exact h.count
    · split
      · rename_i x hx
        have hc := h.count
        refine ⟨by show ((countW V).l.set i.toNat _).length = n; rw [List.length_set]; exact hc.len, fun y hy => ?_, hc.calls, hc.left⟩
        rcases List.mem_or_eq_of_mem_set hy with hy | hy
        · exact hc.fit y hy
        · rw [hy]
          have hm : x ∈ V.l := by rw [(countW_small V).2.2] at hx; exact List.mem_of_getElem? hx
          exact hf x.st (h.fit x hm)
      · exact h.count
  · exact h.more (Nat.le_succ _)
theorem Ok.put {M n : Nat} (h : Ok M n V) (i : Int) (a d : ByteArray) : Ok (M + 1) n (askS V i fun s => putS s a d).2 := h.ask i fun s hs => put_fit hs a d
theorem Ok.sync {M n : Nat} (h : Ok M n V) (i : Int) : Ok (M + 1) n (askS V i W.sync).2 := h.ask i fun s hs => by
  unfold W.sync
  split
  · exact Fit.up hs (Nat.le_succ _)
  · exact { hs with seen := Nat.le_succ_of_le hs.seen, writes := Nat.zero_le _, wnames := fun q hq => (by cases hq), was := fun q hq => (by cases hq), now := fun q hq => (by cases hq) }
end Go.Proofs.YtmpgfpmkmgebdaaGreatDoor
/- Quorum: the name of a slot, what was got looked at, whether a manifest stands in a store, which slot is taken. -/
namespace Go.Proofs.YtmpgfpmkmgebdaaGreatDoor
open Go.RowKit Go.Maps
open W
set_option linter.unusedVariables false
theorem itoa0 : F.ofBs (F.dec 0) = ⟨#[48]⟩ := by decide +kernel
theorem itoa1 : F.ofBs (F.dec 1) = ⟨#[49]⟩ := by decide +kernel
set_option maxRecDepth 20000 in
theorem name_any (k : Nat) (hk : k ≤ 1) (w : World) (hl : F.Lay w) : Calls Tryz.prog 50 #[.int .i64 (k : Int)] w fun e w' => e = .returned (.string (mn k)) ∧ Below w.heap.size w w' := by
  have HI := F.itoa_any (k : Int) (by omega) (by omega) w hl
  rcases (by omega : k = 0 ∨ k = 1) with rfl | rfl
  · go_enter Tryz.func50, Tryz.ntmps50
    go_wp2_with fail
    refine HI.mono ?_
    rintro e w1 ⟨rfl, hb⟩
    rw [show ((0 : Nat) : Int) = 0 from rfl, itoa0]
    go_wp2_with fail
    go_ret
    exact ⟨rfl, hb⟩
  · go_enter Tryz.func50, Tryz.ntmps50
    go_wp2_with fail
    refine HI.mono ?_
    rintro e w1 ⟨rfl, hb⟩
    rw [show ((1 : Nat) : Int) = 1 from rfl, itoa1]
    go_wp2_with fail
    go_ret
    exact ⟨rfl, hb⟩
theorem info105 : (Tryz.prog.info? 105).map (·.size) = some 6 := by kernel_rfl
theorem info34 : (Tryz.prog.info? 34).map (·.size) = some 5 := by kernel_rfl
theorem six_cells {W : World} {b : Nat} {x0 x1 x2 x3 x4 x5 : Value} {t : TypeId} (h : Has W b #[x0, x1, x2, x3, x4, x5] t) : (W.cell? ⟨b, 0, none⟩ = some x0 ∧ W.cell? ⟨b, 1, none⟩ = some x1 ∧ W.cell? ⟨b, 2, none⟩ = some x2 ∧ W.cell? ⟨b, 3, none⟩ = some x3 ∧ W.cell? ⟨b, 4, none⟩ = some x4 ∧ W.cell? ⟨b, 5, none⟩ = some x5) ∧ W.frozen? ⟨b, 0, none⟩ = false ∧ W.frozen? ⟨b, 1, none⟩ = false ∧ W.frozen? ⟨b, 2, none⟩ = false ∧ W.frozen? ⟨b, 3, none⟩ = false ∧ W.frozen? ⟨b, 4, none⟩ = false ∧ W.frozen? ⟨b, 5, none⟩ = false :=
  ⟨⟨h.cell 0, h.cell 1, h.cell 2, h.cell 3, h.cell 4, h.cell 5⟩, h.frozen 0, h.frozen 1, h.frozen 2, h.frozen 3, h.frozen 4, h.frozen 5⟩
theorem six_put {W : World} {b : Nat} {x0 x1 x2 x3 x4 x5 : Value} {t : TypeId} (h : Has W b #[x0, x1, x2, x3, x4, x5] t) (y0 y1 y2 y3 y4 y5 : Value) : Has ((((((W.setCell ⟨b, 0, none⟩ y0).setCell ⟨b, 1, none⟩ y1).setCell ⟨b, 2, none⟩ y2).setCell ⟨b, 3, none⟩ y3).setCell ⟨b, 4, none⟩ y4).setCell ⟨b, 5, none⟩ y5) b #[y0, y1, y2, y3, y4, y5] t :=
  (((((h.set 0 y0).set 1 y1).set 2 y2).set 3 y3).set 4 y4).set 5 y5
theorem six_bel {w W : World} {b : Nat} (h : Below w.heap.size w W) (hb : w.heap.size ≤ b) (y0 y1 y2 y3 y4 y5 : Value) : Below w.heap.size w ((((((W.setCell ⟨b, 0, none⟩ y0).setCell ⟨b, 1, none⟩ y1).setCell ⟨b, 2, none⟩ y2).setCell ⟨b, 3, none⟩ y3).setCell ⟨b, 4, none⟩ y4).setCell ⟨b, 5, none⟩ y5) :=
  (((((h.setCell (p := ⟨b, 0, none⟩) hb _).setCell (p := ⟨b, 1, none⟩) hb _).setCell (p := ⟨b, 2, none⟩) hb _).setCell (p := ⟨b, 3, none⟩) hb _).setCell (p := ⟨b, 4, none⟩) hb _).setCell (p := ⟨b, 5, none⟩) hb _
theorem ret_rep {fn : Func} {a : Act} {W : World} {b : Nat} {r : Rp} {p : Tmp} {Q : Ending → World → Prop}
    (hf : fn.results = #[.cell p 105]) (hp : a.tmps.getD p undef = .pointer (some ⟨b, 0, none⟩)) (hd : a.defers = []) (hc : Has W b (rV r).toArray 105)
    (hQ : Q (.returned (.agg (rV r).toArray)) W) : bodyPost Tryz.prog fn Q Exit.ret a W := by
  refine bodyPost_ret (v := .agg (rV r).toArray) ?_ hd hQ
  rw [F.results_one_cell hf]
  exact F.ret_row (cs := rV r) hp hc.range Tryz.underlying105 rfl info105
set_option maxHeartbeats 1000000 in
set_option maxRecDepth 20000 in
theorem looked_any (s : ByteArray) (n : Int) (w : World) (hl : F.Lay w) : Calls Tryz.prog 51 #[.string s, .int .i64 n] w fun e w' => e = .returned (.agg (rV (lookd n s)).toArray) ∧ Below w.heap.size w w' := by
  obtain ⟨wa, hwa⟩ : ∃ wa, wa = w.alloc (.cells #[.bool false, .int .i64 0, .int .i64 0, .int .i64 0, .int .i64 0, .string ⟨#[]⟩] 105) := ⟨_, rfl⟩
  have hB : Below w.heap.size w wa := by rw [hwa]; exact boxed _ _
  have hG : Has wa w.heap.size #[.bool false, .int .i64 0, .int .i64 0, .int .i64 0, .int .i64 0, .string ⟨#[]⟩] 105 := by rw [hwa]; exact Has.new _ _ _ _ rfl
  have HRD := F.read_any s wa (hl.below hB).ht
  have HL : Hid (lookd n s = if F.rdOk s = true ∧ F.fB s 13 = n then ⟨true, ⟨F.fN s 4, F.fN s 8, F.fB s 12, F.fB s 13, F.fP s⟩⟩ else noR) := hid rfl
  have HB := hid hB
  have HG := hid hG
  clear hl hB hG
  have fin : ∀ w1, Below wa.heap.size wa w1 → ∀ o, ∀ r : Rp, Has (((((((w1.alloc o).setCell ⟨w.heap.size, 0, none⟩ (.bool r.sd)).setCell ⟨w.heap.size, 1, none⟩ (.int .i64 r.b.e)).setCell ⟨w.heap.size, 2, none⟩ (.int .i64 r.b.g)).setCell ⟨w.heap.size, 3, none⟩ (.int .i64 r.b.k)).setCell ⟨w.heap.size, 4, none⟩ (.int .i64 r.b.n)).setCell ⟨w.heap.size, 5, none⟩ (.string r.b.p)) w.heap.size (rV r).toArray 105 ∧ Below w.heap.size w (((((((w1.alloc o).setCell ⟨w.heap.size, 0, none⟩ (.bool r.sd)).setCell ⟨w.heap.size, 1, none⟩ (.int .i64 r.b.e)).setCell ⟨w.heap.size, 2, none⟩ (.int .i64 r.b.g)).setCell ⟨w.heap.size, 3, none⟩ (.int .i64 r.b.k)).setCell ⟨w.heap.size, 4, none⟩ (.int .i64 r.b.n)).setCell ⟨w.heap.size, 5, none⟩ (.string r.b.p)) := fun w1 h1 o r =>
    have h2 : Below wa.heap.size wa (w1.alloc o) := h1.alloc h1.size _
    ⟨six_put (HG.out.below h2 HG.out.lt) _ _ _ _ _ _, six_bel (HB.out.trans (h2.mono HB.out.size)) (Nat.le_refl _) _ _ _ _ _ _⟩
  have HFIN := hid fin
  clear fin
  unfold F.rdV F.noF F.frc at HRD
  by_cases hr : F.rdOk s = true
  · rw [if_pos hr] at HRD
    generalize F.fN s 4 = E at *
    generalize F.fN s 8 = G at *
    generalize F.fB s 12 = K at *
    generalize F.fB s 13 = M at *
    generalize F.fP s = p at *
    by_cases hn : M = n
    · rw [if_pos ⟨hr, hn⟩] at HL
      rw [HL.out]
      clear HL hr
      subst hn
      go_enter Tryz.func51, Tryz.ntmps51
      go_wp2_with fail
      rw [← hwa]
      refine HRD.mono ?_
      rintro x w1 ⟨rfl, hb1⟩
      have hx : Has (w1.alloc (.cells #[.int .i64 E, .int .i64 G, .int .i64 K, .int .i64 M, .string p] 85)) w1.heap.size #[.int .i64 E, .int .i64 G, .int .i64 K, .int .i64 M, .string p] 85 := Has.new _ _ _ _ rfl
      have a0 := hx.cell 0
      have a1 := hx.cell 1
      have a2 := hx.cell 2
      have a3 := hx.cell 3
      have a4 := hx.cell 4
      have hy := HG.out.below (hb1.alloc hb1.size (.cells #[.int .i64 E, .int .i64 G, .int .i64 K, .int .i64 M, .string p] 85)) HG.out.lt
      obtain ⟨⟨c0, c1, c2, c3, c4, c5⟩, f0, f1, f2, f3, f4, f5⟩ := six_cells hy
      have HF := hid (HFIN.out w1 hb1 (.cells #[.int .i64 E, .int .i64 G, .int .i64 K, .int .i64 M, .string p] 85) ⟨true, ⟨E, G, K, M, p⟩⟩)
      clear hx hy hwa HRD HB HG HFIN hb1
      go_wp2_with fail
      exact ret_rep rfl rfl rfl HF.out.1 ⟨rfl, HF.out.2⟩
    · rw [if_neg (fun h => hn h.2)] at HL
      rw [HL.out]
      have q0 : (M != n) = true := by simpa using hn
      clear HL hr hn
      go_enter Tryz.func51, Tryz.ntmps51
      go_wp2_with fail
      rw [← hwa]
      refine HRD.mono ?_
      rintro x w1 ⟨rfl, hb1⟩
      have hx : Has (w1.alloc (.cells #[.int .i64 E, .int .i64 G, .int .i64 K, .int .i64 M, .string p] 85)) w1.heap.size #[.int .i64 E, .int .i64 G, .int .i64 K, .int .i64 M, .string p] 85 := Has.new _ _ _ _ rfl
      have a0 := hx.cell 0
      have a1 := hx.cell 1
      have a2 := hx.cell 2
      have a3 := hx.cell 3
      have a4 := hx.cell 4
      have hy := HG.out.below (hb1.alloc hb1.size (.cells #[.int .i64 E, .int .i64 G, .int .i64 K, .int .i64 M, .string p] 85)) HG.out.lt
      obtain ⟨⟨c0, c1, c2, c3, c4, c5⟩, f0, f1, f2, f3, f4, f5⟩ := six_cells hy
      have HF := hid (HFIN.out w1 hb1 (.cells #[.int .i64 E, .int .i64 G, .int .i64 K, .int .i64 M, .string p] 85) noR)
      clear hx hy hwa HRD HB HG HFIN hb1
      go_wp2_with fail
      exact ret_rep rfl rfl rfl HF.out.1 ⟨rfl, HF.out.2⟩
  · rw [if_neg hr] at HRD
    rw [if_neg (fun h => hr h.1)] at HL
    rw [HL.out]
    clear HL hr
    go_enter Tryz.func51, Tryz.ntmps51
    go_wp2_with fail
    rw [← hwa]
    refine HRD.mono ?_
    rintro x w1 ⟨rfl, hb1⟩
    have hy := HG.out.below (hb1.alloc hb1.size (.cells #[.int .i64 0, .int .i64 0, .int .i64 0, .int .i64 0, .string ⟨#[]⟩] 85)) HG.out.lt
    obtain ⟨⟨c0, c1, c2, c3, c4, c5⟩, f0, f1, f2, f3, f4, f5⟩ := six_cells hy
    have HF := hid (HFIN.out w1 hb1 (.cells #[.int .i64 0, .int .i64 0, .int .i64 0, .int .i64 0, .string ⟨#[]⟩] 85) noR)
    clear hy hwa HRD HB HG HFIN hb1
    go_wp2_with fail
    exact ret_rep rfl rfl rfl HF.out.1 ⟨rfl, HF.out.2⟩
end Go.Proofs.YtmpgfpmkmgebdaaGreatDoor
/- Quorum: whether a manifest stands in a store; which slot is taken. -/
namespace Go.Proofs.YtmpgfpmkmgebdaaGreatDoor
open Go.RowKit Go.Maps
open W
set_option linter.unusedVariables false
/-- what a store has, as it lies at a place of a list -/
structure HdAt (W : World) (g o : Nat) (h : Hd) : Prop where
  c : ∀ j v, (hV h)[j]? = some v → W.cell? ⟨g, o + j, none⟩ = some v
theorem HdAt.cells {W : World} {g o : Nat} {d : Bool} {r0 r1 : Rp} (h : HdAt W g o ⟨d, r0, r1⟩) :
    (W.cell? ⟨g, o, none⟩ = some (.bool d)) ∧
    (W.cell? ⟨g, o + 1, none⟩ = some (.bool r0.sd) ∧ W.cell? ⟨g, o + 2, none⟩ = some (.int .i64 r0.b.e) ∧ W.cell? ⟨g, o + 3, none⟩ = some (.int .i64 r0.b.g) ∧ W.cell? ⟨g, o + 4, none⟩ = some (.int .i64 r0.b.k) ∧ W.cell? ⟨g, o + 5, none⟩ = some (.int .i64 r0.b.n) ∧ W.cell? ⟨g, o + 6, none⟩ = some (.string r0.b.p)) ∧
    (W.cell? ⟨g, o + 7, none⟩ = some (.bool r1.sd) ∧ W.cell? ⟨g, o + 8, none⟩ = some (.int .i64 r1.b.e) ∧ W.cell? ⟨g, o + 9, none⟩ = some (.int .i64 r1.b.g) ∧ W.cell? ⟨g, o + 10, none⟩ = some (.int .i64 r1.b.k) ∧ W.cell? ⟨g, o + 11, none⟩ = some (.int .i64 r1.b.n) ∧ W.cell? ⟨g, o + 12, none⟩ = some (.string r1.b.p)) :=
  ⟨h.c 0 _ rfl, ⟨h.c 1 _ rfl, h.c 2 _ rfl, h.c 3 _ rfl, h.c 4 _ rfl, h.c 5 _ rfl, h.c 6 _ rfl⟩, h.c 7 _ rfl, h.c 8 _ rfl, h.c 9 _ rfl, h.c 10 _ rfl, h.c 11 _ rfl, h.c 12 _ rfl⟩
theorem HdAt.below {W W' : World} {g o : Nat} {h : Hd} (k : HdAt W g o h) (hg : g < W.heap.size) (hb : Below W.heap.size W W') : HdAt W' g o h :=
  ⟨fun j v hv => by have := k.c j v hv; rwa [hb.cell (p := ⟨g, o + j, none⟩) hg]⟩
theorem tl_eq (a c : ByteArray) : (a.toList = c.toList) = (a = c) := by
  rw [Lib.toList_data, Lib.toList_data]
  exact propext ⟨ba_ext, fun h => by rw [h]⟩
theorem eql105 (a c : Rp) (w : World) : (binOp .eql 105 (.agg (rV a).toArray) (.agg (rV c).toArray)).run Tryz.prog w = .ok (.bool (decide (a = c))) w := by
  obtain ⟨a0, a1, a2, a3, a4, a5⟩ := a
  obtain ⟨c0, c1, c2, c3, c4, c5⟩ := c
  unfold rV bV
  by_cases h0 : a0 = c0
  · subst h0
    by_cases h1 : a1 = c1
    · subst h1
      by_cases h2 : a2 = c2
      · subst h2
        by_cases h3 : a3 = c3
        · subst h3
          by_cases h4 : a4 = c4
          · subst h4
            by_cases h5 : a5 = c5
            · subst h5; simp [go_sem]
            · simp [go_sem, tl_eq, h5]
          · simp [go_sem, tl_eq, h4]
        · simp [go_sem, tl_eq, h3]
      · simp [go_sem, tl_eq, h2]
    · simp [go_sem, tl_eq, h1]
  · simp [go_sem, tl_eq, h0]
theorem guard105 (x y : Operand) (a c : Array Value) (w : World) : (eqGuard .eql 105 x y (.agg a) (.agg c)).run Tryz.prog w = .ok () w := run_eqGuard_agg _ _ _ _ _ _ _ (by kernel_rfl)
set_option maxHeartbeats 1000000 in
set_option maxRecDepth 20000 in
theorem has_any (g o : Nat) (h : Hd) (b : Bst) (w : World) (hh : HdAt w g o h) (hg : g < w.heap.size) : Calls Tryz.prog 41 #[.pointer (some ⟨g, o, none⟩), .agg (bV b).toArray] w fun e w' => e = .returned (.bool (hasB h b)) ∧ Below w.heap.size w w' := by
  obtain ⟨d, r0, r1⟩ := h
  have E0 := eql105 r0 ⟨true, b⟩
  have E1 := eql105 r1 ⟨true, b⟩
  have HB : Hid (hasB ⟨d, r0, r1⟩ b = (decide (r0 = ⟨true, b⟩) || decide (r1 = ⟨true, b⟩))) := hid rfl
  obtain ⟨be, bg, bk, bn, bp⟩ := b
  obtain ⟨wa, hwa⟩ : ∃ wa, wa = (w.alloc (.cells #[.int .i64 be, .int .i64 bg, .int .i64 bk, .int .i64 bn, .string bp] 34)).alloc (.cells #[.bool true, .int .i64 be, .int .i64 bg, .int .i64 bk, .int .i64 bn, .string bp] 105) := ⟨_, rfl⟩
  have hb : Below w.heap.size w wa := by rw [hwa]; exact ((Below.refl _ _).alloc (Nat.le_refl _) _).alloc (by simp) _
  have HBel := hid hb
  have k1 := (hh.below hg hb).cells
  have hI : Has wa (w.heap.size + 1) #[.bool true, .int .i64 be, .int .i64 bg, .int .i64 bk, .int .i64 bn, .string bp] 105 := by rw [hwa]; exact Has.new _ (w.heap.size + 1) _ _ (by simp)
  obtain ⟨⟨i0, i1, i2, i3, i4, i5⟩, _⟩ := six_cells hI
  obtain ⟨_, ⟨a1, a2, a3, a4, a5, a6⟩, ⟨b1, b2, b3, b4, b5, b6⟩⟩ := k1
  clear hh hb hI
  rw [HB.out]
  generalize hd0 : decide (r0 = ⟨true, ⟨be, bg, bk, bn, bp⟩⟩) = d0 at *
  generalize hd1 : decide (r1 = ⟨true, ⟨be, bg, bk, bn, bp⟩⟩) = d1 at *
  clear HB hd0 hd1
  obtain ⟨s0, e0, g0, k0, n0, p0⟩ := r0
  obtain ⟨s1, e1, g1, k1, n1, p1⟩ := r1
  unfold rV bV at E0 E1
  unfold bV
  simp only at E0 E1 a1 a2 a3 a4 a5 a6 b1 b2 b3 b4 b5 b6 ⊢
  have hgd := guard105
  rw [hwa] at i0 i1 i2 i3 i4 i5 a1 a2 a3 a4 a5 a6 b1 b2 b3 b4 b5 b6
  rw [hwa] at HBel
  clear hwa hg
  cases d0 with
  | true =>
    go_enter Tryz.func41, Tryz.ntmps41
    go_wp2_with fail
    go_quiet (fail)
    go_wp2_with fail
    go_ret
    exact ⟨rfl, below_drewN HBel.out _⟩
  | false =>
    go_enter Tryz.func41, Tryz.ntmps41
    go_wp2_with fail
    go_quiet (fail)
    go_wp2_with fail
    go_ret
    exact ⟨by simp, below_drewN HBel.out _⟩
theorem eql32 (a b c d : Int) (w : World) : (binOp .eql 32 (.agg #[.int .i64 a, .int .i64 b]) (.agg #[.int .i64 c, .int .i64 d])).run Tryz.prog w = .ok (.bool (decide (a = c) && decide (b = d))) w := by
  by_cases h1 : a = c
  · subst h1
    by_cases h2 : b = d
    · subst h2; simp [go_sem]
    · simp [go_sem, h2]
  · simp [go_sem, h1]
theorem guard32 (x y : Operand) (a c : Array Value) (w : World) : (eqGuard .eql 32 x y (.agg a) (.agg c)).run Tryz.prog w = .ok () w := run_eqGuard_agg _ _ _ _ _ _ _ (by kernel_rfl)
set_option maxHeartbeats 1000000 in
set_option maxRecDepth 20000 in
/-- whether what stands in a slot has a base's stamp -/
theorem base_any (q : Nat) (oe og : Int) (r : Rp) (w : World) (hq : Has w q #[.int .i64 oe, .int .i64 og] 89) : Calls Tryz.prog 71 #[.agg (rV r).toArray, .pointer (some ⟨q, 0, none⟩)] w fun e w' => e = .returned (.bool (isB oe og r)) ∧ Below w.heap.size w w' := by
  obtain ⟨s0, e0, g0, k0, n0, p0⟩ := r
  obtain ⟨wa, hwa⟩ : ∃ wa, wa = w.alloc (.cells #[.bool s0, .int .i64 e0, .int .i64 g0, .int .i64 k0, .int .i64 n0, .string p0] 105) := ⟨_, rfl⟩
  have hb : Below w.heap.size w wa := by rw [hwa]; exact boxed _ _
  have hI : Has wa w.heap.size #[.bool s0, .int .i64 e0, .int .i64 g0, .int .i64 k0, .int .i64 n0, .string p0] 105 := by rw [hwa]; exact Has.new _ _ _ _ rfl
  obtain ⟨⟨i0, i1, i2, i3, i4, i5⟩, _⟩ := six_cells hI
  have hq2 := hq.below hb hq.lt
  have c0 := hq2.cell 0
  have c1 := hq2.cell 1
  have HB := hid hb
  have E0 := eql32 e0 g0 oe og
  have hgd := guard32
  clear hq hq2 hI hb
  rw [hwa] at i0 i1 i2 i3 i4 i5 c0 c1 HB
  clear hwa
  unfold rV bV isB
  simp only
  generalize (decide (e0 = oe) && decide (g0 = og)) = t at *
  cases s0 with
  | true =>
    go_enter Tryz.func71, Tryz.ntmps71
    go_wp2_with fail
    go_ret
    exact ⟨by simp, HB.out⟩
  | false =>
    go_enter Tryz.func71, Tryz.ntmps71
    go_wp2_with fail
    go_ret
    exact ⟨by simp, HB.out⟩
end Go.Proofs.YtmpgfpmkmgebdaaGreatDoor
