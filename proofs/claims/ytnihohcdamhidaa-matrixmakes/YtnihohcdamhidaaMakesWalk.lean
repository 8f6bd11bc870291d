/- The walk of MatrixMakes. -/
import Derived.Test.YtnihohcdamhidaaCodesWalk
namespace Go.Proofs.Ytnihohcdamhidaa
open Go.RowKit
/-- the list of one row that was made so -/
theorem NewRow.wr {base : Nat} {w w' : World} {v : Value} {l : List Nat} (h : NewRow base w v l) (hk : ∀ b, base ≤ b → b < w.heap.size → w'.heap[b]? = w.heap[b]?) (hs : w.heap.size ≤ w'.heap.size) : WrG base w.heap.size (w'.alloc (.cells #[v] 32)) (.slice (some ⟨w'.heap.size, 0, none⟩) 1 1) := by
  obtain ⟨h1, h2, h3⟩ := h
  refine ⟨_, _, _, rfl, by omega, fun _ => ⟨w'.heap.size, 0, rfl, fun j hj => ?_⟩⟩
  obtain rfl : j = 0 := by omega
  have hn := Has.new w' w'.heap.size #[v] 32 rfl
  have hc : (w'.alloc (.cells #[v] 32)).cell? ⟨w'.heap.size, 0 + 0, none⟩ = some v := hn.cell 0
  rcases h3 with ⟨rfl, rfl⟩ | ⟨g, rfl, k1, k2⟩
  · exact ⟨_, _, _, hc, by omega, fun h => absurd h (by omega)⟩
  · have k3 : Has w' g (U8s l) 5 := by
      have := hk g k1 k2.lt
      unfold Has at k2 ⊢
      rw [this]; exact k2
    have k2' := k3.alloc (.cells #[.slice (some ⟨g, 0, none⟩) l.length l.length] 32)
    have hgl := k2.lt
    refine ⟨_, _, _, hc, by omega, fun _ => ⟨g, 0, rfl, k1, hgl, by omega, fun i hi => ⟨⟨l.getD i 0, getD_lt h1 i, ?_⟩, k2'.frozen _⟩⟩⟩
    rw [Nat.zero_add, k2'.cell, U8s_get _ _ hi]
theorem alloc_old {w : World} {o : Obj} {b : Nat} (h : b < w.heap.size) : (w.alloc o).heap[b]? = w.heap[b]? := Below.heap_alloc _ _ _ h
set_option maxRecDepth 20000 in
set_option maxHeartbeats 4000000 in
theorem makes_walk (va vb vv vz : Value) (a b : List (List Nat)) (l : List Nat) (zs : List Int) (w : World) (ha : Mat w va a) (hb : Mat w vb b) (hv : Row8 w vv l) (hz : Ints w vz zs) :
    Calls Try.prog 4 #[va, vb, vv, vz] w fun e w' => e = .returned (.bool true) ∧ Below w.heap.size w w' := by
  have hvr : Hid (Row8 w vv l) := hv
  have hvz : Hid (Ints w vz zs) := hz
  obtain ⟨al, cl, evv, _⟩ := hv
  obtain ⟨az, cz, evz, _⟩ := hz
  subst evv evz
  go_enter Try.func4, Try.ntmps4
  go_wp2_with fail
  refine (large_any va a w ha).mono ?_
  rintro e w1 ⟨⟨b1, rfl⟩, rfl⟩
  cases b1 with
  | true =>
    go_wp2_with fail
    go_ret
    exact ⟨rfl, Below.refl _ _⟩
  | false =>
  go_wp2_with fail
  refine (large_any vb b w1 hb).mono ?_
  rintro e w2 ⟨⟨b2, rfl⟩, rfl⟩
  cases b2 with
  | true =>
    go_wp2_with fail
    go_ret
    exact ⟨rfl, Below.refl _ _⟩
  | false =>
  by_cases hl1 : 2000 < l.length
  · have d1 : decide ((2000 : Int) < (l.length : Int)) = true := by simp; omega
    go_wp2_with fail
    go_ret
    exact ⟨rfl, Below.refl _ _⟩
  have d1 : decide ((2000 : Int) < (l.length : Int)) = false := by simp; omega
  by_cases hl2 : 200 < zs.length
  · have d2 : decide ((200 : Int) < (zs.length : Int)) = true := by simp; omega
    go_wp2_with fail
    go_ret
    exact ⟨rfl, Below.refl _ _⟩
  have d2 : decide ((200 : Int) < (zs.length : Int)) = false := by simp; omega
  go_wp2_with fail
  clear d1 d2
  have E1 : (errM a b != errM a b) = false := int_ne_self _
  have E2 : (errV a l != errV a l) = false := int_ne_self _
  have E3 : (errR a zs != errR a zs) = false := int_ne_self _
  have E4 : ((ofBs (ansV a l)).toList == (ofBs (ansV a l)).toList) = true := str_eq _
  have M0 : Hid (∀ W, Below w2.heap.size w2 W → Mat W va a ∧ Mat W vb b ∧ Row8 W (.slice al l.length cl) l ∧ Ints W (.slice az zs.length cz) zs) := fun W hW =>
    ⟨ha.below hW, hb.below hW, hvr.out.below hW, hvz.out.below hW⟩
  have BR := Below.refl w2.heap.size w2
  clear ha hb
  refine (refMul_any' va vb a b w2 (M0.out _ BR).1 (M0.out _ BR).2.1).mono ?_
  rintro e w3 ⟨vc, rfl, hC, b3⟩
  go_wp2_with fail
  refine (refVec_any va _ a l w3 (M0.out _ b3).1 (M0.out _ b3).2.2.1).mono ?_
  rintro e w4 ⟨vd, rfl, hD, b4⟩
  have B4 := belowCall b3 b4
  go_wp2_with fail
  refine (refRows_any va _ a zs w4 (M0.out _ B4).1 (M0.out _ B4).2.2.2).mono ?_
  rintro e w5 ⟨vg, rfl, hG, b5⟩
  have B5 := belowCall B4 b5
  have N0 : Hid (∀ W, Below w5.heap.size w5 W → Mat W vc (ansM a b) ∧ Row8 W vd (ansV a l) ∧ Mat W vg (ansR a zs) ∧ Below w2.heap.size w2 W) := fun W hW =>
    ⟨(hC.below (belowCall b4 b5)).below hW, (hD.below b5).below hW, hG.below hW, belowCall B5 hW⟩
  clear hC hD hG b3 b4 b5 B4 B5
  generalize hBS : w5.heap.size = BS at *
  go_wp2_with fail
  go_loopw [15] (fun vi wr => ∃ k : Nat, k ≤ 2 ∧ vi = .int .i64 (k : Int) ∧ Below BS w5 wr) (fun vi _ => 2 - (intOf vi).toNat)
  case atStart => exact ⟨0, by omega, rfl, by rw [← hBS]; exact Below.refl _ _⟩
  case round =>
    obtain ⟨k, hk, rfl, hb⟩ := hrel
    have hBw : BS ≤ wr.heap.size := by rw [← hBS]; exact hb.size
    by_cases hlt : k < 2
    · have d0 : (k : Int) < 2 := by omega
      have m0 := M0.out _ (N0.out _ hb).2.2.2
      go_wp2_with fail
      refine (mul_any' va vb a b wr m0.1 m0.2.1).mono ?_
      rintro e w6 ⟨vx, rfl, hX, b6⟩
      have B6 : Below BS w5 w6 := hb.trans (b6.mono hBw)
      have m1 := M0.out _ (N0.out _ B6).2.2.2
      go_wp2_with fail
      refine (vec_any va _ a l w6 m1.1 m1.2.2.1).mono ?_
      rintro e w7 ⟨vy, rfl, hY, b7⟩
      have hB6 : BS ≤ w6.heap.size := Nat.le_trans hBw b6.size
      have B7 : Below BS w5 w7 := B6.trans (b7.mono hB6)
      have m2 := M0.out _ (N0.out _ B7).2.2.2
      go_wp2_with fail
      refine (rows_any va _ a zs w7 m2.1 m2.2.2.2).mono ?_
      rintro e w8 ⟨vw, rfl, hZ, b8⟩
      have hB7 : BS ≤ w7.heap.size := Nat.le_trans hB6 b7.size
      have B8 : Below BS w5 w8 := B7.trans (b8.mono hB7)
      clear m0 m1 m2
      go_wp2_with fail
      refine (refSame_any vx vc _ _ w8 ((hX.below b7).below b8).mat (N0.out _ B8).1).mono ?_
      rintro e w9 ⟨rfl, b9⟩
      rw [decide_eq_true rfl]
      have hB8 : BS ≤ w8.heap.size := Nat.le_trans hB7 b8.size
      have B9 : Below BS w5 w9 := B8.trans (b9.mono hB8)
      have q1 := conv_row ((hY.below b8).below b9).row
      have q2 := conv_row (N0.out _ B9).2.1
      go_wp2_with fail
      refine (refSame_any vw vg _ _ w9 (hZ.below b9).mat (N0.out _ B9).2.2.1).mono ?_
      rintro e w10 ⟨rfl, b10⟩
      rw [decide_eq_true rfl]
      clear q1 q2
      have c8 : Below w8.heap.size w8 w10 := belowCall b9 b10
      have c7 : Below w7.heap.size w7 w10 := belowCall b8 c8
      have c6 : Below w6.heap.size w6 w10 := belowCall b7 c7
      have WX : Wr wr.heap.size w6.heap.size w10 vx := hX.wr.same (fun b _ hb2 => c6.block b hb2)
      have hY10 : NewRow w6.heap.size w10 vy (ansV a l) := hY.below c7
      have WZ : Wr w7.heap.size w8.heap.size w10 vw := hZ.wr.same (fun b _ hb2 => c8.block b hb2)
      go_wp2_with fail
      refine (spoil_any _ _ vx w10 WX.g).mono ?_
      rintro e w11 ⟨rfl, K11⟩
      have hs11 : w10.heap.size ≤ w11.heap.size := K11.1.size
      have hk67 := b7.size
      have hk78 := b8.size
      have hk10 := c8.size
      have WZ11 : Wr w7.heap.size w8.heap.size w11 vw := WZ.same (fun b hb1 _ => K11.2 b (by omega))
      have WY11 : Hid (∀ v, v = vy → WrG w6.heap.size w7.heap.size (w11.alloc (.cells #[v] 32)) (.slice (some ⟨w11.heap.size, 0, none⟩) 1 1)) := fun v hv => by
        subst hv
        exact hY.wr (fun b hb1 hb2 => (K11.2 b hb1).trans (c7.block b hb2)) (by omega)
      have B11 : Below BS w5 w11 := (((B9.trans (b10.mono (Nat.le_trans hB8 b9.size))).trans (K11.1.mono hBw)))
      have WZ12 : Hid (∀ v W, Keeps w6.heap.size w7.heap.size (w11.alloc (.cells #[v] 32)) W → Wr w7.heap.size w8.heap.size W vw ∧ Below BS w5 W) := fun v W hW =>
        ⟨WZ11.same (fun b hb1 hb2 => (hW.2 b hb1).trans (alloc_old (by omega))), (B11.alloc (Nat.le_trans (by omega) hs11) _).trans (hW.1.mono hB6)⟩
      obtain ⟨n1, n2, n3⟩ := hY
      clear n1 n2 hY10 WX WZ WZ11 hX hZ
      rcases n3 with ⟨rfl, _⟩ | ⟨g, rfl, _, _⟩
      all_goals
        go_wp2_with fail
        refine (spoil_any _ _ _ _ (WY11.out _ rfl)).mono ?_
        rintro e w12 ⟨rfl, K12⟩
        obtain ⟨WZ', B12⟩ := WZ12.out _ _ K12
        go_wp2_with fail
        refine (spoil_any _ _ vw w12 WZ'.g).mono ?_
        rintro e w13 ⟨rfl, K13⟩
        have B13 : Below BS w5 w13 := B12.trans (K13.1.mono hB7)
        go_wp2_with fail
        exact ⟨⟨k + 1, by omega, rfl, B13⟩, by simp [intOf]; omega⟩
    · obtain rfl : k = 2 := by omega
      have m0 := M0.out _ (N0.out _ hb).2.2.2
      have b0 := (N0.out _ hb).2.2.2
      generalize hmm : mayM a = mb at *
      generalize hdd : decide (a = b) = db at *
      have em : (mb == mb) = true := by simp
      have ed : (db == db) = true := by simp
      go_wp2_with fail
      refine (may_any va a wr m0.1).mono ?_
      rintro e w6 ⟨rfl, rfl⟩
      rw [hmm]
      go_wp2_with fail
      refine (refMay_any va a w6 m0.1).mono ?_
      rintro e w7 ⟨rfl, b7⟩
      rw [hmm]
      go_wp2_with fail
      refine (same_any va vb a b w7 (m0.1.below b7) (m0.2.1.below b7)).mono ?_
      rintro e w8 ⟨rfl, b8⟩
      rw [hdd]
      have c8 := belowCall b7 b8
      go_wp2_with fail
      refine (refSame_any va vb a b w8 (m0.1.below c8) (m0.2.1.below c8)).mono ?_
      rintro e w9 ⟨rfl, b9⟩
      rw [hdd]
      have c9 := belowCall c8 b9
      go_wp2_with fail
      refine (same_any va va a a w9 (m0.1.below c9) (m0.1.below c9)).mono ?_
      rintro e w10 ⟨rfl, b10⟩
      rw [decide_eq_true rfl]
      have c10 := belowCall c9 b10
      go_wp2_with fail
      go_ret
      exact ⟨rfl, belowCall b0 c10⟩
end Go.Proofs.Ytnihohcdamhidaa
