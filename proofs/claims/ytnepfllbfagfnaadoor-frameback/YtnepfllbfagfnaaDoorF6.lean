/- The contract of Read. -/
import Derived.Test.YtnepfllbfagfnaaDoorF5
import Derived.Lib.ConvBytes
namespace Go.Proofs.YtnepfllbfagfnaaDoor
open Go.RowKit
set_option maxRecDepth 20000 in
theorem read_long (s : ByteArray) (h : s.size < 50 ∨ 65536 < s.size) (w : World) :
    Calls Tryd.prog 10 #[.string s] w fun e w' => e = .returned (.tuple #[.agg noF, .int .i64 4]) ∧ Below w.heap.size w w' := by
  have h2 : Has (w.alloc (.cells noF 28)) w.heap.size noF 28 := Has.new _ _ _ _ rfl
  have h3 : Below w.heap.size w (w.alloc (.cells noF 28)) := (Below.refl _ _).alloc (Nat.le_refl _) _
  go_enter Tryd.func10, Tryd.ntmps10
  by_cases q : s.size < 50
  · have q0 : (s.size : Int) < 50 := by omega
    go_wp2_with fail
    exact ret_frame Tryd.results10 rfl rfl rfl h2 ⟨rfl, h3⟩
  · have q0 : ¬ (s.size : Int) < 50 := by omega
    have q1 : (65536 : Int) < (s.size : Int) := by omega
    go_wp2_with fail
    exact ret_frame Tryd.results10 rfl rfl rfl h2 ⟨rfl, h3⟩
/-- the memory of Read: the frame that is told -/
structure RdW (w W : World) : Prop where
  hr : Has W w.heap.size noF 28
  bl : Below w.heap.size w W
theorem RdW.next {w W W' : World} (h : RdW w W) (hb : Below W.heap.size W W') : RdW w W' :=
  ⟨h.hr.below hb h.hr.lt, belowCall h.bl hb⟩
theorem bytes_told (w : World) (s : ByteArray) : ∃ W cap, (convert 9 32 (.string s)).run Tryd.prog w = .ok (.slice (some ⟨w.heap.size, 0, none⟩) s.size cap) W ∧ BRow W w.heap.size (bs s) ∧ Below w.heap.size w W ∧ s.size ≤ cap :=
  ⟨_, _, Lib.run_convert_string_bytes (P := Tryd.prog) w 9 32 5 s Tryd.underlying9 Tryd.underlying32 Tryd.underlying5, brow_new w s, Lib.bytesWorld_below w 5 s, by have := grownCap_ge w s.size 0 5; omega⟩
theorem told_str (s : ByteArray) (h1 : 50 ≤ s.size) (h2 : s.size ≤ 65536) (g cap : Nat) (W : World) (hb : BRow W g (bs s)) (hc : s.size ≤ cap) :
    Calls Tryd.prog 20 #[.slice (some ⟨g, 0, none⟩) s.size cap] W fun e w' => e = .returned (.agg (frc (fN s 4) (fN s 8) (fB s 12) (fB s 13) (fP s))) ∧ Below W.heap.size W w' := by
  have := told_any g s.size cap (bs s) W hb (bs_length s) (bs_lt s) h1 (by omega) hc
  have e : ofBs (((bs s).drop 18).take (s.size - 50)) = fP s := by
    rw [← ofBs_bs (fP s)]
    unfold fP
    rw [bs_extract, List.drop_take, Nat.sub_sub]
  rw [e] at this
  exact this
set_option maxRecDepth 20000 in
set_option maxHeartbeats 1000000 in
theorem read_mid (s : ByteArray) (h1 : 50 ≤ s.size) (h2 : s.size ≤ 65536) (w : World) (ht : Tabs w) :
    Calls Tryd.prog 10 #[.string s] w fun e w' => e = .returned (rdV s) ∧ Below w.heap.size w w' := by
  have q0 : ¬ (s.size : Int) < 50 := by omega
  have q1 : ¬ (65536 : Int) < (s.size : Int) := by omega
  have HM : Hid (∀ W, Tabs W → Calls Tryd.prog 9 #[.agg (frc (fN s 4) (fN s 8) (fB s 12) (fB s 13) (fP s))] W fun e w' => e = .returned (.tuple #[.string (mkD (fN s 4) (fN s 8) (fB s 12) (fB s 13) (fP s)), .int .i64 (mkE (fN s 4) (fN s 8) (fB s 12) (fB s 13) (fP s))]) ∧ Below W.heap.size W w') := fun W hW => make_any _ _ _ _ _ W hW
  have HT : Hid (∀ g cap W, BRow W g (bs s) → s.size ≤ cap → Calls Tryd.prog 20 #[.slice (some ⟨g, 0, none⟩) s.size cap] W fun e w' => e = .returned (.agg (frc (fN s 4) (fN s 8) (fB s 12) (fB s 13) (fP s))) ∧ Below W.heap.size W w') := fun g cap W hb hc => told_str s h1 h2 g cap W hb hc
  have HR : Hid (rdV s = if (mkE (fN s 4) (fN s 8) (fB s 12) (fB s 13) (fP s) = 0 ∧ mkD (fN s 4) (fN s 8) (fB s 12) (fB s 13) (fP s) = s) then .tuple #[.agg (frc (fN s 4) (fN s 8) (fB s 12) (fB s 13) (fP s)), .int .i64 0] else .tuple #[.agg noF, .int .i64 4]) := by
    unfold Hid rdV rdOk
    simp only [h1, decide_true, Bool.true_and, Bool.and_eq_true, decide_eq_true_eq]
  rw [HR.out]
  clear HR
  generalize mkD (fN s 4) (fN s 8) (fB s 12) (fB s 13) (fP s) = Y at *
  generalize mkE (fN s 4) (fN s 8) (fB s 12) (fB s 13) (fP s) = R at *
  generalize fN s 4 = E at *
  generalize fN s 8 = G at *
  generalize fB s 12 = K at *
  generalize fB s 13 = N at *
  generalize fP s = p at *
  obtain ⟨W0, cap, hc, hbr, hbl, hcap⟩ := bytes_told (w.alloc (.cells noF 28)) s
  have hz : (w.alloc (.cells noF 28)).heap.size = w.heap.size + 1 := by simp
  rw [hz] at hc hbr
  have R0 : RdW w W0 := ⟨(Has.new w _ noF 28 rfl).below hbl (by rw [hz]; omega), belowCall ((Below.refl _ _).alloc (Nat.le_refl _) _) hbl⟩
  unfold noF frc at hc
  clear hbl hz
  go_enter Tryd.func10, Tryd.ntmps10
  go_wp2_with fail
  refine (HT.out _ _ _ hbr hcap).mono ?_
  rintro e w1 ⟨rfl, b1⟩
  have R1 := R0.next b1
  clear b1 HT R0 hc hbr hcap
  unfold frc
  go_wp2_with fail
  have b1 : Below w1.heap.size w1 (w1.alloc (.cells (frc E G K N p) 28)) := (Below.refl _ _).alloc (Nat.le_refl _) _
  have R2 := R1.next b1
  have S2 : Has (w1.alloc (.cells (frc E G K N p) 28)) w1.heap.size (frc E G K N p) 28 := Has.new _ _ _ _ rfl
  refine (HM.out _ (ht.below' R2.bl)).mono ?_
  rintro e w2 ⟨rfl, b2⟩
  have R3 := R2.next b2
  have S3 := S2.below b2 S2.lt
  clear b2 b1 R2 S2 R1 HM
  obtain ⟨c0, c1, c2, c3, c4⟩ := frc_cells R3.hr
  obtain ⟨f0, f1, f2, f3, f4⟩ := frc_free R3.hr
  obtain ⟨s0, s1, s2, s3, s4⟩ := frc_cells S3
  by_cases hE : R = 0
  · subst hE
    by_cases hY : Y = s
    · subst hY
      go_wp2_with fail
      exact ret_frame Tryd.results10 rfl rfl rfl (frc_put R3.hr _ _ _ _ _) ⟨by first | rfl | (rw [if_neg (fun h => hE h.1)]; rfl), below_put5 R3.bl (by omega) _ _ _ _ _⟩
    · have qY : (Y.toList == s.toList) = false := str_ne fun e => hY (bs_inj e)
      go_wp2_with fail
      exact ret_frame Tryd.results10 rfl rfl rfl (frc_put R3.hr _ _ _ _ _) ⟨by first | rfl | (rw [if_neg (fun h => hE h.1)]; rfl), below_put5 R3.bl (by omega) _ _ _ _ _⟩
  · have qE : (R != 0) = true := by rw [bne_iff_ne]; exact hE
    go_wp2_with fail
    exact ret_frame Tryd.results10 rfl rfl rfl (frc_put R3.hr _ _ _ _ _) ⟨by first | rfl | (rw [if_neg (fun h => hE h.1)]; rfl), below_put5 R3.bl (by omega) _ _ _ _ _⟩
theorem rd_size {s : ByteArray} (h : rdOk s = true) : 50 ≤ s.size ∧ s.size ≤ 65536 := by
  obtain ⟨e, g, k, n, _, _, _, _, hd⟩ := rd_is h
  have h1 := hd.size
  have h2 := hd.hp
  omega
/-- READ. -/
theorem read_any (s : ByteArray) (w : World) (ht : Tabs w) :
    Calls Tryd.prog 10 #[.string s] w fun e w' => e = .returned (rdV s) ∧ Below w.heap.size w w' := by
  by_cases h : 50 ≤ s.size ∧ s.size ≤ 65536
  · exact read_mid s h.1 h.2 w ht
  · have e : rdV s = .tuple #[.agg noF, .int .i64 4] := by
      unfold rdV
      rw [if_neg]
      exact fun hk => h (rd_size hk)
    rw [e]
    exact read_long s (by omega) w
end Go.Proofs.YtnepfllbfagfnaaDoor
