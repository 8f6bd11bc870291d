/- FrameBack: what it answers. -/
import Derived.Test.YtnepfllbfagfnaaDoorF10
import Derived.Deep.Cut
namespace Go.Proofs.YtnepfllbfagfnaaDoor
open Go.RowKit
/-- the memory of FrameBack: three stamps and a code -/
structure BkW (a0 a1 b0 b1 c0 c1 K N : Int) (w W : World) : Prop where
  h0 : Has W w.heap.size #[.int .i64 a0, .int .i64 a1] 24
  h1 : Has W (w.heap.size + 1) #[.int .i64 b0, .int .i64 b1] 24
  h2 : Has W (w.heap.size + 2) #[.int .i64 c0, .int .i64 c1] 24
  h3 : Has W (w.heap.size + 3) #[.int .i64 K, .int .i64 N] 26
  bl : Below w.heap.size w W
theorem BkW.next {a0 a1 b0 b1 c0 c1 K N : Int} {w W W' : World} (h : BkW a0 a1 b0 b1 c0 c1 K N w W) (hb : Below W.heap.size W W') : BkW a0 a1 b0 b1 c0 c1 K N w W' :=
  ⟨h.h0.below hb h.h0.lt, h.h1.below hb h.h1.lt, h.h2.below hb h.h2.lt, h.h3.below hb h.h3.lt, belowCall h.bl hb⟩
theorem BkW.start (a0 a1 b0 b1 c0 c1 K N : Int) (w : World) : BkW a0 a1 b0 b1 c0 c1 K N w ((((w.alloc (.cells #[.int .i64 a0, .int .i64 a1] 24)).alloc (.cells #[.int .i64 b0, .int .i64 b1] 24)).alloc (.cells #[.int .i64 c0, .int .i64 c1] 24)).alloc (.cells #[.int .i64 K, .int .i64 N] 26)) := by
  obtain ⟨h1, h2, h3, h4⟩ := two_new w #[.int .i64 a0, .int .i64 a1] #[.int .i64 b0, .int .i64 b1] 24 24
  exact ⟨(h1.alloc _).alloc _, (h2.alloc _).alloc _, (Has.new _ _ _ _ (by simp)).alloc _, Has.new _ _ _ _ (by simp), belowAlloc (belowAlloc h3 _) _⟩
theorem BkW.cells {a0 a1 b0 b1 c0 c1 K N : Int} {w W : World} (h : BkW a0 a1 b0 b1 c0 c1 K N w W) :
    (W.cell? ⟨w.heap.size, 0, none⟩ = some (.int .i64 a0) ∧ W.cell? ⟨w.heap.size, 1, none⟩ = some (.int .i64 a1)) ∧ (W.cell? ⟨w.heap.size + 1, 0, none⟩ = some (.int .i64 b0) ∧ W.cell? ⟨w.heap.size + 1, 1, none⟩ = some (.int .i64 b1)) ∧ (W.cell? ⟨w.heap.size + 2, 0, none⟩ = some (.int .i64 c0) ∧ W.cell? ⟨w.heap.size + 2, 1, none⟩ = some (.int .i64 c1)) ∧ W.cell? ⟨w.heap.size + 3, 0, none⟩ = some (.int .i64 K) ∧ W.cell? ⟨w.heap.size + 3, 1, none⟩ = some (.int .i64 N) :=
  ⟨⟨h.h0.cell 0, h.h0.cell 1⟩, ⟨h.h1.cell 0, h.h1.cell 1⟩, ⟨h.h2.cell 0, h.h2.cell 1⟩, h.h3.cell 0, h.h3.cell 1⟩
set_option maxRecDepth 20000 in
theorem back_long (a0 a1 b0 b1 c0 c1 K N : Int) (p s : ByteArray) (z y : Int) (h : 5000 < p.size ∨ 5000 < s.size) (w : World) (ht : Tabs w) :
    Calls Tryd.prog 6 #[.agg #[.int .i64 a0, .int .i64 a1], .agg #[.int .i64 b0, .int .i64 b1], .agg #[.int .i64 c0, .int .i64 c1], .agg #[.int .i64 K, .int .i64 N], .string p, .string s, .int .i64 z, .int .u8 y] w fun e w' => e = .returned (.bool true) ∧ Below w.heap.size w w' := by
  have T0 := BkW.start a0 a1 b0 b1 c0 c1 K N w
  go_enter Tryd.func6, Tryd.ntmps6
  by_cases hp : 5000 < p.size
  · have q0 : (5000 : Int) < (p.size : Int) := by omega
    clear h
    go_wp2_with fail
    refine (works_any _ (ht.below' T0.bl)).mono ?_
    rintro e w1 ⟨rfl, b1⟩
    have T1 := T0.next b1
    go_wp2_with fail
    refine (works_any _ (ht.below' T1.bl)).mono ?_
    rintro e w2 ⟨rfl, b2⟩
    have T2 := T1.next b2
    go_wp2_with fail
    go_ret
    exact ⟨rfl, T2.bl⟩
  · have q0 : ¬ (5000 : Int) < (p.size : Int) := by omega
    have q1 : (5000 : Int) < (s.size : Int) := by omega
    clear h
    go_wp2_with fail
    refine (works_any _ (ht.below' T0.bl)).mono ?_
    rintro e w1 ⟨rfl, b1⟩
    have T1 := T0.next b1
    go_wp2_with fail
    refine (works_any _ (ht.below' T1.bl)).mono ?_
    rintro e w2 ⟨rfl, b2⟩
    have T2 := T1.next b2
    go_wp2_with fail
    go_ret
    exact ⟨rfl, T2.bl⟩
theorem less_one {a0 a1 b0 b1 : Int} (h : lessB a0 a1 b0 b1 = true) : lessB b0 b1 a0 a1 = false ∧ ¬ (a0 = b0 ∧ a1 = b1) := by
  unfold lessB at *
  simp only [Bool.or_eq_true, Bool.and_eq_true, decide_eq_true_eq, Bool.or_eq_false_iff, Bool.and_eq_false_iff, decide_eq_false_iff_not] at *
  omega
theorem less_none {a0 a1 b0 b1 : Int} (h : lessB a0 a1 b0 b1 = false) (h' : lessB b0 b1 a0 a1 = false) : a0 = b0 ∧ a1 = b1 := by
  unfold lessB at *
  simp only [Bool.or_eq_false_iff, Bool.and_eq_false_iff, decide_eq_false_iff_not] at *
  omega
theorem less_trans {a0 a1 b0 b1 c0 c1 : Int} (h : lessB a0 a1 b0 b1 = true) (h' : lessB b0 b1 c0 c1 = true) : lessB a0 a1 c0 c1 = true := by
  unfold lessB at *
  simp only [Bool.or_eq_true, Bool.and_eq_true, decide_eq_true_eq] at *
  omega
/-- what Read of any bytes tells, and Make of that -/
theorem rd_back (s : ByteArray) : ∃ (E G K N : Int) (p : ByteArray) (R : Int), Hid (∀ W, Tabs W → Calls Tryd.prog 10 #[.string s] W fun e w' => e = .returned (.tuple #[.agg #[.int .i64 E, .int .i64 G, .int .i64 K, .int .i64 N, .string p], .int .i64 R]) ∧ Below W.heap.size W w') ∧ (R = 0 → Hid (∀ W, Tabs W → Calls Tryd.prog 9 #[.agg #[.int .i64 E, .int .i64 G, .int .i64 K, .int .i64 N, .string p]] W fun e w' => e = .returned (.tuple #[.string s, .int .i64 0]) ∧ Below W.heap.size W w')) := by
  refine ⟨rE s, rG s, rK s, rN s, rP s, rR s, fun W hW => by have := read_any s W hW; rw [rdV_eq] at this; exact this, fun h => fun W hW => ?_⟩
  have hr : rdOk s = true := by
    unfold rR at h
    cases hq : rdOk s with
    | true => rfl
    | false => rw [hq] at h; cases h
  have := make_any (rE s) (rG s) (rK s) (rN s) (rP s) W hW
  unfold rE rG rK rN rP at this ⊢
  simp only [hr, if_true] at this ⊢
  unfold rdOk at hr
  simp only [Bool.and_eq_true, decide_eq_true_eq] at hr
  rw [hr.2.1, hr.2.2] at this
  exact this
theorem read_told (s : ByteArray) : ∃ (E G K N : Int) (p : ByteArray), Hid (∀ W, Tabs W → Calls Tryd.prog 10 #[.string s] W fun e w' => e = .returned (.tuple #[.agg #[.int .i64 E, .int .i64 G, .int .i64 K, .int .i64 N, .string p], .int .i64 (rR s)]) ∧ Below W.heap.size W w') :=
  ⟨rE s, rG s, rK s, rN s, rP s, fun W hW => by have := read_any s W hW; rw [rdV_eq] at this; exact this⟩
theorem read_fails (s : ByteArray) (h : rdOk s = false) : ∃ (E G K N : Int) (p : ByteArray), Hid (∀ W, Tabs W → Calls Tryd.prog 10 #[.string s] W fun e w' => e = .returned (.tuple #[.agg #[.int .i64 E, .int .i64 G, .int .i64 K, .int .i64 N, .string p], .int .i64 4]) ∧ Below W.heap.size W w') := by
  have := read_told s
  rw [show rR s = 4 by unfold rR; rw [h]; rfl] at this
  exact this
theorem place (z : Int) (n : Nat) (h0 : 0 < n) (h1 : n ≤ 100000) : ∃ k : Nat, k < n ∧ wrap64 ((IntKind.u64.wrap z).tmod (n : Int)) = (k : Int) := by
  have e2 : 0 ≤ IntKind.u64.wrap z := by rw [IntKind.wrap_u64]; omega
  generalize IntKind.u64.wrap z = u at *
  obtain ⟨m, rfl⟩ := Int.eq_ofNat_of_zero_le e2
  have hm : m % n < n := Nat.mod_lt _ h0
  refine ⟨m % n, hm, ?_⟩
  rw [Int.tmod_eq_emod_of_nonneg (by omega), ← Int.natCast_emod]
  generalize m % n = r at *
  unfold wrap64
  omega
theorem one_str (y : Nat) : ∃ U : ByteArray, U.size = 1 ∧ ∀ w : World, (convert 32 9 (.slice (some ⟨w.heap.size, 0, none⟩) 1 1)).run Tryd.prog (w.alloc (.cells #[.int .u8 (y : Int)] 5)) = .ok (.string U) (w.alloc (.cells #[.int .u8 (y : Int)] 5)) :=
  ⟨ofBs [y], by rw [ofBs_size]; rfl, fun w => conv_str _ _ [y] 5 1 (Has.new _ _ _ _ rfl)⟩
set_option maxRecDepth 20000 in
set_option maxHeartbeats 1000000 in
theorem back_short (a0 a1 b0 b1 c0 c1 K N : Int) (p s : ByteArray) (z : Int) (y : Nat) (hy : y < 256) (hp : p.size ≤ 5000) (hs : s.size ≤ 5000) (w : World) (ht : Tabs w) :
    Calls Tryd.prog 6 #[.agg #[.int .i64 a0, .int .i64 a1], .agg #[.int .i64 b0, .int .i64 b1], .agg #[.int .i64 c0, .int .i64 c1], .agg #[.int .i64 K, .int .i64 N], .string p, .string s, .int .i64 z, .int .u8 (y : Int)] w fun e w' => e = .returned (.bool true) ∧ Below w.heap.size w w' := by
  have T0 := BkW.start a0 a1 b0 b1 c0 c1 K N w
  have q0 : ¬ (5000 : Int) < (p.size : Int) := by omega
  have q1 : ¬ (5000 : Int) < (s.size : Int) := by omega
  go_enter Tryd.func6, Tryd.ntmps6
  go_wp2_with fail
  refine (works_any _ (ht.below' T0.bl)).mono ?_
  rintro e w1 ⟨rfl, b1⟩
  have T1 := T0.next b1
  obtain ⟨⟨k0, k1⟩, ⟨k2, k3⟩, ⟨k4, k5⟩, k6, k7⟩ := T1.cells
  clear b1 T0
  go_wp2_with fail
  refine (less_any a0 a1 b0 b1 _).mono ?_
  rintro e w2 ⟨rfl, b2⟩
  have T2 := T1.next b2
  clear k0 k1 k2 k3 k4 k5 k6 k7 b2 T1
  obtain ⟨⟨k0, k1⟩, ⟨k2, k3⟩, ⟨k4, k5⟩, k6, k7⟩ := T2.cells
  go_wp2_with fail
  refine (less_any b0 b1 a0 a1 _).mono ?_
  rintro e w3 ⟨rfl, b3⟩
  have T3 := T2.next b3
  clear k0 k1 k2 k3 k4 k5 k6 k7 b3 T2
  go_upto_region 5 with fail
  go_cut [17, 18, 51, 54, 82] from 55 (fun _ _ _ _ v wx => v = .bool false ∧ BkW a0 a1 b0 b1 c0 c1 K N w wx)
  case first =>
    obtain ⟨⟨k0, k1⟩, ⟨k2, k3⟩, ⟨k4, k5⟩, k6, k7⟩ := T3.cells
    cases h1 : lessB a0 a1 b0 b1 with
    | true =>
      obtain ⟨h2, h3⟩ := less_one h1
      have H1 := hidR h1
      rw [h2]
      clear h1 h2
      by_cases e0 : a0 = b0
      · subst e0
        have e1 : ¬ a1 = b1 := fun h => h3 ⟨rfl, h⟩
        clear h3
        go_wp2_with fail
        refine (less_any a0 b1 c0 c1 _).mono ?_
        rintro e w4 ⟨rfl, b4⟩
        have T4 := T3.next b4
        clear k0 k1 k2 k3 k4 k5 k6 k7 b4 T3
        obtain ⟨⟨k0, k1⟩, ⟨k2, k3⟩, ⟨k4, k5⟩, k6, k7⟩ := T4.cells
        cases h4 : lessB a0 b1 c0 c1 with
        | true =>
          have h5 := less_trans H1.out h4
          clear h4
          go_wp2_with fail
          refine (less_any a0 a1 c0 c1 _).mono ?_
          rintro e w5 ⟨rfl, b5⟩
          have T5 := T4.next b5
          rw [h5]
          clear k0 k1 k2 k3 k4 k5 k6 k7 b5 T4 h5
          go_wp2_with fail
          go_meet
          exact ⟨rfl, T5⟩
        | false =>
          clear h4
          go_wp2_with fail
          go_meet
          exact ⟨rfl, T4⟩

      · clear h3
        go_wp2_with fail
        refine (less_any b0 b1 c0 c1 _).mono ?_
        rintro e w4 ⟨rfl, b4⟩
        have T4 := T3.next b4
        clear k0 k1 k2 k3 k4 k5 k6 k7 b4 T3
        obtain ⟨⟨k0, k1⟩, ⟨k2, k3⟩, ⟨k4, k5⟩, k6, k7⟩ := T4.cells
        cases h4 : lessB b0 b1 c0 c1 with
        | true =>
          have h5 := less_trans H1.out h4
          clear h4
          go_wp2_with fail
          refine (less_any a0 a1 c0 c1 _).mono ?_
          rintro e w5 ⟨rfl, b5⟩
          have T5 := T4.next b5
          rw [h5]
          clear k0 k1 k2 k3 k4 k5 k6 k7 b5 T4 h5
          go_wp2_with fail
          go_meet
          exact ⟨rfl, T5⟩
        | false =>
          clear h4
          go_wp2_with fail
          go_meet
          exact ⟨rfl, T4⟩

    | false =>
      cases h2 : lessB b0 b1 a0 a1 with
      | true =>
        obtain ⟨_, h3⟩ := less_one h2
        clear h1 h2
        by_cases e0 : a0 = b0
        · subst e0
          have e1 : ¬ a1 = b1 := fun h => h3 ⟨rfl, h.symm⟩
          clear h3
          go_wp2_with fail
          go_meet
          exact ⟨rfl, T3⟩

        · clear h3
          go_wp2_with fail
          go_meet
          exact ⟨rfl, T3⟩

      | false =>
        obtain ⟨rfl, rfl⟩ := less_none h1 h2
        clear h1 h2
        go_wp2_with fail
        go_meet
        exact ⟨rfl, T3⟩

  case rest =>
    obtain ⟨rfl, T4⟩ := hcut
    clear T3
    obtain ⟨E', G', K', N', p', R', HA, HB⟩ := rd_back s
    go_wp2_with fail
    refine (HA.out _ (ht.below' T4.bl)).mono ?_
    rintro e w4 ⟨rfl, b4⟩
    have T5 := T4.next b4
    clear b4 T4 HA
    go_upto_if 89 with fail
    have F5 : Has (w4.alloc (.cells #[.int .i64 E', .int .i64 G', .int .i64 K', .int .i64 N', .string p'] 28)) w4.heap.size (frc E' G' K' N' p') 28 := Has.new _ _ _ _ rfl
    have T6 := T5.next ((Below.refl _ _).alloc (Nat.le_refl _) (.cells #[.int .i64 E', .int .i64 G', .int .i64 K', .int .i64 N', .string p'] 28))
    clear T5
    go_cut [21, 22, 89] from 90 (fun _ _ _ wx => BkW a0 a1 b0 b1 c0 c1 K N w wx)
    case first =>
      by_cases hR : R' = 0
      · have HB' := HB hR
        have qR : (R' == 0) = true := by rw [hR]; rfl
        clear HB hR
        obtain ⟨m0, m1, m2, m3, m4⟩ := frc_cells F5
        go_wp2_with fail
        refine (HB'.out _ (ht.below' T6.bl)).mono ?_
        rintro e w6 ⟨rfl, b6⟩
        have T7 := T6.next b6
        clear b6 T6 F5 m0 m1 m2 m3 m4 HB'
        go_wp2_with fail
        go_meet
        exact T7
      · have qR : (R' == 0) = false := beq_eq_false_iff_ne.2 hR
        clear HB hR
        go_wp2_with fail
        go_meet
        exact T6
    case rest =>
      have T7 := hcut
      clear T6 F5 HB hcut
      obtain ⟨⟨k0, k1⟩, ⟨k2, k3⟩, ⟨k4, k5⟩, k6, k7⟩ := T7.cells
      by_cases hm : mkE a0 a1 K N p = 0
      · obtain ⟨en, gn, kn, nn, e1, e2, e3, e4, hI⟩ := mk_is hm
        have HM : Hid (∀ W, Tabs W → Calls Tryd.prog 9 #[.agg #[.int .i64 a0, .int .i64 a1, .int .i64 K, .int .i64 N, .string p]] W fun e w' => e = .returned (.tuple #[.string (mkD a0 a1 K N p), .int .i64 0]) ∧ Below W.heap.size W w') := fun W hW => by
          have := make_any a0 a1 K N p W hW
          rw [hm] at this
          exact this
        have HR0 : Hid (∀ W, Tabs W → Calls Tryd.prog 10 #[.string (mkD a0 a1 K N p)] W fun e w' => e = .returned (.tuple #[.agg #[.int .i64 a0, .int .i64 a1, .int .i64 K, .int .i64 N, .string p], .int .i64 0]) ∧ Below W.heap.size W w') := fun W hW => by
          have := read_any (mkD a0 a1 K N p) W hW
          rw [rdV_yes hI, ← e1, ← e2, ← e3, ← e4] at this
          exact this
        have hrd := hI.read
        have hsz := hI.size
        have l50 : 50 ≤ (mkD a0 a1 K N p).size := by omega
        have lY : (mkD a0 a1 K N p).size ≤ 6000 := by omega
        clear hsz
        clear hI e1 e2 e3 e4 hm
        generalize mkD a0 a1 K N p = Y at *
        obtain ⟨j, hj, hJ⟩ := place z 32 (by decide) (by decide)
        obtain ⟨E1, G1, K1, N1, p1, HR1⟩ := read_fails (Y.extract 0 (Y.size - 1)) (rd_short hrd (Y.size - 1) (by omega))
        obtain ⟨U, hU, HU⟩ := one_str y
        obtain ⟨E2, G2, K2, N2, p2, HR2⟩ := read_fails (Y ++ U) (rd_long hrd U hU)
        obtain ⟨E3, G3, K3, N3, p3, HR3⟩ := read_told (ofBs ((bs Y).set (Y.size - 1 - j) y))
        have hbs : bs (ofBs ((bs Y).set (Y.size - 1 - j) y)) = (bs Y).set (Y.size - 1 - j) y := bs_ofBs _ (fun x hx => by
          rcases List.mem_or_eq_of_mem_set hx with hx | rfl
          · exact bs_lt Y x hx
          · exact hy)
        have hbent := rd_bent hrd (Y.size - 1 - j) y (by omega) (by omega) hbs
        have HRR : Hid (rR (ofBs ((bs Y).set (Y.size - 1 - j) y)) = if (bs Y).getD (Y.size - 1 - j) 0 = y then 0 else 4) := by
          unfold Hid rR
          rw [hbent]
          by_cases hq : (bs Y).getD (Y.size - 1 - j) 0 = y
          · rw [if_pos hq, decide_eq_true hq]; rfl
          · rw [if_neg hq, decide_eq_false hq]; rfl
        generalize rR (ofBs ((bs Y).set (Y.size - 1 - j) y)) = R3 at *
        clear hbent hbs
        obtain ⟨m, hm⟩ : ∃ m, Hid (Y.size - 1 - j = m) := ⟨_, rfl⟩
        rw [hm.out] at HR3 HRR
        have hm' : (Y.size : Int) - 1 - (j : Int) = (m : Int) := by have := hm.out; omega
        have hml : m < Y.size := by have := hm.out; omega
        have hJ2 : wrap64 (((Y.size - 1 : Nat) : Int) - wrap64 ((IntKind.u64.wrap z).tmod 32)) = (m : Int) := by
          have e : wrap64 ((IntKind.u64.wrap z).tmod 32) = (j : Int) := hJ
          have := hm.out
          rw [e]
          unfold wrap64
          omega
        clear hm hJ hm'
        have q3 : (Y.size : Int) - 1 = ((Y.size - 1 : Nat) : Int) := by omega
        have q4 : ¬ 9223372036854775807 < Y.size + U.size := by omega
        have HQ3 := hidR q3
        go_wp2_with fail
        have Y7 : Has (wc.alloc (.cells #[.int .i64 a0, .int .i64 a1, .int .i64 K, .int .i64 N, .string p] 28)) wc.heap.size (frc a0 a1 K N p) 28 := Has.new _ _ _ _ rfl
        have T8 := T7.next ((Below.refl _ _).alloc (Nat.le_refl _) (.cells #[.int .i64 a0, .int .i64 a1, .int .i64 K, .int .i64 N, .string p] 28))
        clear k0 k1 k2 k3 k4 k5 k6 k7 T7
        refine (HM.out _ (ht.below' T8.bl)).mono ?_
        rintro e w8 ⟨rfl, b8⟩
        have T9 := T8.next b8
        have Y9 := Y7.below b8 Y7.lt
        clear b8 T8 Y7 HM
        go_wp2_with fail
        refine (HR0.out _ (ht.below' T9.bl)).mono ?_
        rintro e w9 ⟨rfl, b9⟩
        have Ta := T9.next b9
        have Ya := Y9.below b9 Y9.lt
        clear b9 T9 Y9 HR0
        go_wp2_with fail
        have Tb := Ta.next ((Below.refl _ _).alloc (Nat.le_refl _) (.cells #[.int .i64 a0, .int .i64 a1, .int .i64 K, .int .i64 N, .string p] 28))
        have Yb := Ya.alloc (.cells #[.int .i64 a0, .int .i64 a1, .int .i64 K, .int .i64 N, .string p] 28)
        have Zb : Has (w9.alloc (.cells #[.int .i64 a0, .int .i64 a1, .int .i64 K, .int .i64 N, .string p] 28)) w9.heap.size (frc a0 a1 K N p) 28 := Has.new _ _ _ _ rfl
        clear Ta Ya
        refine (HR1.out _ (ht.below' Tb.bl)).mono ?_
        rintro e wb ⟨rfl, bb⟩
        have Tc := Tb.next bb
        have Yc := Yb.below bb Yb.lt
        have Zc := Zb.below bb Zb.lt
        clear bb Tb Yb Zb HR1
        have HUb := HU (wb.alloc (.cells #[.int .i64 E1, .int .i64 G1, .int .i64 K1, .int .i64 N1, .string p1] 28))
        rw [show (wb.alloc (.cells #[.int .i64 E1, .int .i64 G1, .int .i64 K1, .int .i64 N1, .string p1] 28)).heap.size = wb.heap.size + 1 by simp] at HUb
        clear HU
        go_wp2_with fail
        have Td := (Tc.next ((Below.refl _ _).alloc (Nat.le_refl _) (.cells #[.int .i64 E1, .int .i64 G1, .int .i64 K1, .int .i64 N1, .string p1] 28))).next ((Below.refl _ _).alloc (Nat.le_refl _) (.cells #[.int .u8 (y : Int)] 5))
        have Yd := (Yc.alloc (.cells #[.int .i64 E1, .int .i64 G1, .int .i64 K1, .int .i64 N1, .string p1] 28)).alloc (.cells #[.int .u8 (y : Int)] 5)
        have Zd := (Zc.alloc (.cells #[.int .i64 E1, .int .i64 G1, .int .i64 K1, .int .i64 N1, .string p1] 28)).alloc (.cells #[.int .u8 (y : Int)] 5)
        clear Tc Yc Zc
        refine (HR2.out _ (ht.below' Td.bl)).mono ?_
        rintro e wd ⟨rfl, bd⟩
        have Te := Td.next bd
        have Ye := Yd.below bd Yd.lt
        have Ze := Zd.below bd Zd.lt
        clear bd Td Yd Zd HR2
        have y0 := fun o => (frc_cells (Ye.alloc o)).1
        have y1 := fun o => (frc_cells (Ye.alloc o)).2.1
        have y2 := fun o => (frc_cells (Ye.alloc o)).2.2.1
        have y3 := fun o => (frc_cells (Ye.alloc o)).2.2.2.1
        have y4 := fun o => (frc_cells (Ye.alloc o)).2.2.2.2
        have z0 := fun o => (frc_cells (Ze.alloc o)).1
        have z1 := fun o => (frc_cells (Ze.alloc o)).2.1
        have z2 := fun o => (frc_cells (Ze.alloc o)).2.2.1
        have z3 := fun o => (frc_cells (Ze.alloc o)).2.2.2.1
        have z4 := fun o => (frc_cells (Ze.alloc o)).2.2.2.2
        obtain ⟨W9, cap, hcv, B9, b9, hcap⟩ := bytes_told (wd.alloc (.cells #[.int .i64 E2, .int .i64 G2, .int .i64 K2, .int .i64 N2, .string p2] 28)) Y
        have hz9 : (wd.alloc (.cells #[.int .i64 E2, .int .i64 G2, .int .i64 K2, .int .i64 N2, .string p2] 28)).heap.size = wd.heap.size + 1 := by simp
        rw [hz9] at hcv B9
        have Tf := (Te.next ((Below.refl _ _).alloc (Nat.le_refl _) (.cells #[.int .i64 E2, .int .i64 G2, .int .i64 K2, .int .i64 N2, .string p2] 28))).next b9
        have hwd : w.heap.size < wd.heap.size := by have := Te.h3.lt; omega
        clear b9 hz9
        have lz : (bs Y).length = Y.size := bs_length Y
        have cl := B9.cell m (by omega)
        have fr := B9.frozen m (by omega)
        have BB := B9.set m y y rfl (by omega)
        have HC := BB.conv Y.size cap (by rw [List.length_set]; omega)
        rw [List.take_of_length_le (by rw [List.length_set]; omega)] at HC
        have hbl : Hid (Below w.heap.size w (W9.setCell ⟨wd.heap.size + 1, m, none⟩ (.int .u8 (y : Int)))) := belowSet Tf.bl (wd.heap.size + 1) m _ (by omega)
        obtain ⟨was, hwas⟩ : ∃ was, (bs Y).getD m 0 = was := ⟨_, rfl⟩
        rw [hwas] at cl HRR
        clear hwas B9 BB lz Ye Ze Te Tf hwd
        go_wp2_with fail
        refine (HR3.out _ (ht.below' hbl.out)).mono ?_
        rintro e we ⟨rfl, be⟩
        have hbf := hidR (belowAlloc (belowCall hbl.out be) (.cells #[.int .i64 E3, .int .i64 G3, .int .i64 K3, .int .i64 N3, .string p3] 28))
        clear be HR3 hbl HC hcv cl fr y0 y1 y2 y3 y4 z0 z1 z2 z3 z4 hcap hJ2
        by_cases hq : was = y
        · have e3 : R3 = 0 := by rw [HRR.out, if_pos hq]
          have qa : ((was : Int) == (y : Int)) = true := by rw [hq]; simp
          subst e3
          clear hq HRR
          go_wp2_with fail
          go_ret
          exact ⟨rfl, hbf.out⟩
        · have e3 : R3 = 4 := by rw [HRR.out, if_neg hq]
          have qa : ((was : Int) == (y : Int)) = false := by rw [beq_eq_false_iff_ne]; omega
          subst e3
          clear hq HRR
          go_wp2_with fail
          go_ret
          exact ⟨rfl, hbf.out⟩
      · have HM : Hid (∀ W, Tabs W → Calls Tryd.prog 9 #[.agg #[.int .i64 a0, .int .i64 a1, .int .i64 K, .int .i64 N, .string p]] W fun e w' => e = .returned (.tuple #[.string ⟨#[]⟩, .int .i64 (mkE a0 a1 K N p)]) ∧ Below W.heap.size W w') := fun W hW => by
          have := make_any a0 a1 K N p W hW
          unfold mkD at this
          rw [if_neg hm] at this
          exact this
        generalize mkE a0 a1 K N p = R at *
        have qR : (R != 0) = true := by rw [bne_iff_ne]; exact hm
        clear hm
        go_wp2_with fail
        have T8 := T7.next ((Below.refl _ _).alloc (Nat.le_refl _) (.cells #[.int .i64 a0, .int .i64 a1, .int .i64 K, .int .i64 N, .string p] 28))
        clear k0 k1 k2 k3 k4 k5 k6 k7 T7
        refine (HM.out _ (ht.below' T8.bl)).mono ?_
        rintro e w8 ⟨rfl, b8⟩
        have T9 := T8.next b8
        clear b8 T8 HM
        go_wp2_with fail
        go_ret
        exact ⟨rfl, T9.bl⟩
theorem back_any (a0 a1 b0 b1 c0 c1 K N : Int) (p s : ByteArray) (z y : Int) (h0 : 0 ≤ y) (h1 : y < 256) (w : World) (ht : Tabs w) :
    Calls Tryd.prog 6 #[.agg #[.int .i64 a0, .int .i64 a1], .agg #[.int .i64 b0, .int .i64 b1], .agg #[.int .i64 c0, .int .i64 c1], .agg #[.int .i64 K, .int .i64 N], .string p, .string s, .int .i64 z, .int .u8 y] w fun e w' => e = .returned (.bool true) ∧ Below w.heap.size w w' := by
  by_cases h : 5000 < p.size ∨ 5000 < s.size
  · exact back_long a0 a1 b0 b1 c0 c1 K N p s z y h w ht
  · obtain ⟨n, rfl⟩ := Int.eq_ofNat_of_zero_le h0
    exact back_short a0 a1 b0 b1 c0 c1 K N p s z n (by omega) (by omega) (by omega) w ht
end Go.Proofs.YtnepfllbfagfnaaDoor
