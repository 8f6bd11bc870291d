/- The walk of MatrixCodes. -/
import Derived.Test.YtnihohcdamhidaaROf
namespace Go.Proofs.Ytnihohcdamhidaa
open Go.RowKit
theorem int_ne_self (z : Int) : (z != z) = false := by simp
set_option maxRecDepth 20000 in
set_option maxHeartbeats 1000000 in
theorem codes_walk (K N n : Int) (w : World) :
    Calls Try.prog 5 #[.agg #[.int .i64 K, .int .i64 N], .int .i64 n] w fun e w' => e = .returned (.bool true) ∧ Below w.heap.size w w' := by
  have hb0 : Below w.heap.size w (w.alloc (.cells #[.int .i64 K, .int .i64 N] 29)) := (Below.refl _ _).alloc (Nat.le_refl _) _
  have hB0 : Has (w.alloc (.cells #[.int .i64 K, .int .i64 N] 29)) w.heap.size #[.int .i64 K, .int .i64 N] 29 := Has.new w _ _ _ rfl
  have E1 : (errC K N != errC K N) = false := int_ne_self _
  have E2 : (err1 n != err1 n) = false := int_ne_self _
  go_enter Try.func5, Try.ntmps5
  go_wp2_with fail
  refine (refOf_any K N _).mono ?_
  rintro e w1 ⟨va, rfl, hMa, b1⟩
  have hB1 := hB0.below b1 hB0.lt
  have b1' := belowCall hb0 b1
  clear hB0 hb0 b1
  go_wp2_with fail
  refine (refOne_any n w1).mono ?_
  rintro e w2 ⟨vb, rfl, hMb, b2⟩
  have hMa2 := hMa.below b2
  have hB2 := hB1.below b2 hB1.lt
  have b2' := belowCall b1' b2
  have hlt0 : w.heap.size < w2.heap.size := hB2.lt
  clear hMa hB1 b1' b2
  generalize hBS : w2.heap.size = BS at *
  have KK : Hid (∀ W, Below BS w2 W → W.cell? ⟨w.heap.size, 0, none⟩ = some (.int .i64 K) ∧ W.cell? ⟨w.heap.size, 1, none⟩ = some (.int .i64 N)) := fun W hW => by
    rw [← hBS] at hW
    have h := hB2.below hW hB2.lt
    exact ⟨h.cell 0, h.cell 1⟩
  have MM : Hid (∀ W, Below BS w2 W → Mat W va (ansC K N) ∧ Mat W vb (ans1 n)) := fun W hW => by
    rw [← hBS] at hW
    exact ⟨hMa2.below hW, hMb.below hW⟩
  clear hB2 hMa2 hMb
  go_wp2_with fail
  go_loopw [9] (fun vi wr => ∃ k : Nat, k ≤ 2 ∧ vi = .int .i64 (k : Int) ∧ Below BS w2 wr) (fun vi _ => 2 - (intOf vi).toNat)
  case atStart => exact ⟨0, by omega, rfl, by rw [← hBS]; exact Below.refl _ _⟩
  case round =>
    obtain ⟨k, hk, rfl, hb⟩ := hrel
    obtain ⟨kK, kN⟩ := KK.out wr hb
    have hBw : BS ≤ wr.heap.size := by rw [← hBS]; exact hb.size
    by_cases hlt : k < 2
    · have d0 : (k : Int) < 2 := by omega
      go_wp2_with fail
      refine (of_any K N wr).mono ?_
      rintro e w3 ⟨vx, rfl, hX, b3⟩
      go_wp2_with fail
      refine (one_any n w3).mono ?_
      rintro e w4 ⟨vy, rfl, hY, b4⟩
      have B4 : Below BS w2 w4 := (hb.trans (b3.mono hBw)).trans (b4.mono (Nat.le_trans hBw b3.size))
      have hX4 := (hX.below b4).mat
      go_wp2_with fail
      refine (refSame_any va vx _ _ w4 (MM.out _ B4).1 hX4).mono ?_
      rintro e w5 ⟨rfl, b5⟩
      rw [decide_eq_true rfl]
      have B5 : Below BS w2 w5 := B4.trans (b5.mono (Nat.le_trans (Nat.le_trans hBw b3.size) b4.size))
      have hY5 := (hY.below b5).mat
      go_wp2_with fail
      refine (refSame_any vb vy _ _ w5 (MM.out _ B5).2 hY5).mono ?_
      rintro e w6 ⟨rfl, b6⟩
      rw [decide_eq_true rfl]
      have c46 : Below w4.heap.size w4 w6 := belowCall b5 b6
      have c36 : Below w3.heap.size w3 w6 := b4.trans (c46.mono b4.size)
      have WX : Wr wr.heap.size w3.heap.size w6 vx := hX.wr.same (fun b _ hb2 => c36.block b hb2)
      have WY : Wr w3.heap.size w4.heap.size w6 vy := hY.wr.same (fun b _ hb2 => c46.block b hb2)
      go_wp2_with fail
      refine (spoil_any _ _ vx w6 WX.g).mono ?_
      rintro e w7 ⟨rfl, K7⟩
      have WY7 : Wr w3.heap.size w4.heap.size w7 vy := WY.same (fun b hb1 _ => K7.2 b hb1)
      go_wp2_with fail
      refine (spoil_any _ _ vy w7 WY7.g).mono ?_
      rintro e w8 ⟨rfl, K8⟩
      have B8 : Below BS w2 w8 := (((hb.trans (b3.mono hBw)).trans (c36.mono (Nat.le_trans hBw b3.size))).trans (K7.1.mono hBw)).trans (K8.1.mono (Nat.le_trans hBw b3.size))
      go_wp2_with fail
      exact ⟨⟨k + 1, by omega, rfl, B8⟩, by simp [intOf]; omega⟩
    · obtain rfl : k = 2 := by omega
      have BR := Below.refl wr.heap.size wr
      have HS : Hid (∀ W, Below wr.heap.size wr W → W.cell? ⟨w.heap.size, 0, none⟩ = some (.int .i64 K) ∧ W.cell? ⟨w.heap.size, 1, none⟩ = some (.int .i64 N)) := fun W hW => KK.out W (hb.trans (hW.mono hBw))
      generalize hmm : mayC K N = mb
      have em : (mb == mb) = true := by simp
      go_wp2_with fail
      go_region_held3 (fun W => Below wr.heap.size wr W ∧ W.cell? ⟨w.heap.size, 0, none⟩ = some (.int .i64 K) ∧ W.cell? ⟨w.heap.size, 1, none⟩ = some (.int .i64 N)) (first | exact ⟨BR.drew, HS.out _ BR.drew⟩ | exact ⟨hZ1, HS.out _ hZ1⟩ | exact ⟨hZ2, HS.out _ hZ2⟩) (first
        | (go_at_call 17; refine (mayCode_any K N _).mono ?_; rintro e w9 ⟨rfl, c9⟩; first | (have hZ1 := belowCall BR.drew c9) | (have hZ1 := belowCall hZ2 c9))
        | (go_at_call 27; refine (refMayCode_any K N _).mono ?_; rintro e w10 ⟨rfl, c10⟩; first | (have hZ2 := belowCall BR.drew c10) | (have hZ2 := belowCall hZ1 c10)))
      all_goals
        go_wp2_with fail
        go_ret
        refine ⟨rfl, b2'.trans ((hb.trans (Below.mono ?_ hBw)).mono (Nat.le_of_lt hlt0))⟩
        assumption
end Go.Proofs.Ytnihohcdamhidaa
