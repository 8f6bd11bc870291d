/- The contract of Make. -/
import Derived.Test.YtnepfllbfagfnaaDoorF4
namespace Go.Proofs.YtnepfllbfagfnaaDoor
open Go.RowKit
/-- the bytes, put together -/
theorem dat_is (E G K N : Nat) (p : ByteArray) (hK : K < 256) (hN : N < 256) : ⟨#[109, 97, 110, 49]⟩ ++ (ofBs (be4 E) ++ ofBs (be4 G)) ++ ofBs [K, N] ++ ofBs (be4 p.size) ++ p = ofBs (pre E G K N (bs p)) ∧ bs (ofBs (pre E G K N (bs p))) = pre E G K N (bs p) := by
  refine ⟨?_, bs_ofBs _ (pre_lt hK hN (bs_lt p))⟩
  unfold pre
  rw [ofBs_append, ofBs_append, ofBs_append, ofBs_append, ofBs_append, ofBs_bs, bs_length]
  rfl
theorem written_any (E G K N : Nat) (p : ByteArray) (hE : E < 2147483648) (hG : G < 2147483648) (hK : K < 256) (hN : N < 256) (hp : p.size ≤ 65536) (w : World) (ht : Tabs w) :
    Calls Tryd.prog 19 #[.agg (frc E G K N p)] w fun e w' => e = .returned (.string (ofBs (dat E G K N (bs p)))) ∧ Below w.heap.size w w' := by
  obtain ⟨h1, h2⟩ := dat_is E G K N p hK hN
  refine written_aux E G K N p hE hG hK hN hp w ht _ _ _ _ _ _ _ _ _ _ _ rfl rfl rfl rfl rfl rfl rfl rfl rfl rfl ?_
  unfold Hid
  rw [h1, h2, ← ofBs_append]
  rfl
set_option maxRecDepth 20000 in
theorem make_arg (E G K N : Int) (p : ByteArray) (h : okF E G K N = false) (w : World) :
    Calls Tryd.prog 9 #[.agg (frc E G K N p)] w fun e w' => e = .returned (.tuple #[.string ⟨#[]⟩, .int .i64 1]) ∧ Below w.heap.size w w' := by
  have T0 : WtW (frc E G K N p) w (w.alloc (.cells (frc E G K N p) 28)) := ⟨Has.new _ _ _ _ rfl, (Below.refl _ _).alloc (Nat.le_refl _) _⟩
  unfold okF at h
  unfold frc
  go_enter Tryd.func9, Tryd.ntmps9
  go_wp2_with fail
  refine (count_any E _).mono ?_
  rintro e w1 ⟨rfl, rfl⟩
  by_cases h1 : okN E = true
  · rw [h1]
    go_wp2_with fail
    refine (count_any G _).mono ?_
    rintro e w1 ⟨rfl, rfl⟩
    by_cases h2 : okN G = true
    · rw [h2]
      go_wp2_with fail
      refine (code_any K N _).mono ?_
      rintro e w2 ⟨rfl, b2⟩
      have T2 := T0.next b2
      have h3 : okC K N = false := by rw [h1, h2] at h; simpa using h
      rw [h3]
      go_wp2_with fail
      go_ret2
      exact ⟨rfl, T2.bl⟩
    · have h2 : okN G = false := by simpa using h2
      rw [h2]
      go_wp2_with fail
      go_ret2
      exact ⟨rfl, T0.bl⟩
  · have h1 : okN E = false := by simpa using h1
    rw [h1]
    go_wp2_with fail
    go_ret2
    exact ⟨rfl, T0.bl⟩
set_option maxRecDepth 20000 in
theorem make_big (E G K N : Int) (p : ByteArray) (h : okF E G K N = true) (hp : 65486 < p.size) (w : World) :
    Calls Tryd.prog 9 #[.agg (frc E G K N p)] w fun e w' => e = .returned (.tuple #[.string ⟨#[]⟩, .int .i64 40]) ∧ Below w.heap.size w w' := by
  have T0 : WtW (frc E G K N p) w (w.alloc (.cells (frc E G K N p) 28)) := ⟨Has.new _ _ _ _ rfl, (Below.refl _ _).alloc (Nat.le_refl _) _⟩
  have q0 : (65486 : Int) < (p.size : Int) := by omega
  unfold okF at h
  simp only [Bool.and_eq_true] at h
  obtain ⟨⟨h1, h2⟩, h3⟩ := h
  unfold frc
  go_enter Tryd.func9, Tryd.ntmps9
  go_wp2_with fail
  refine (count_any E _).mono ?_
  rintro e w1 ⟨rfl, rfl⟩
  rw [h1]
  go_wp2_with fail
  refine (count_any G _).mono ?_
  rintro e w1 ⟨rfl, rfl⟩
  rw [h2]
  go_wp2_with fail
  refine (code_any K N _).mono ?_
  rintro e w2 ⟨rfl, b2⟩
  have T2 := T0.next b2
  obtain ⟨c0, c1, c2, c3, c4⟩ := frc_cells T2.hs
  rw [h3]
  go_wp2_with fail
  go_ret2
  exact ⟨rfl, T2.bl⟩
set_option maxRecDepth 20000 in
theorem make_ok (E G K N : Int) (p : ByteArray) (h : okF E G K N = true) (hp : p.size ≤ 65486) (w : World) (ht : Tabs w) :
    Calls Tryd.prog 9 #[.agg (frc E G K N p)] w fun e w' => e = .returned (.tuple #[.string (ofBs (dat E.toNat G.toNat K.toNat N.toNat (bs p))), .int .i64 0]) ∧ Below w.heap.size w w' := by
  have T0 : WtW (frc E G K N p) w (w.alloc (.cells (frc E G K N p) 28)) := ⟨Has.new _ _ _ _ rfl, (Below.refl _ _).alloc (Nat.le_refl _) _⟩
  have q0 : ¬ (65486 : Int) < (p.size : Int) := by omega
  obtain ⟨e, g, k, n, rfl, rfl, rfl, rfl, p1, p2, p3, p4, p5⟩ := okF_is h
  simp only [Int.toNat_natCast]
  have HW : Hid (∀ W, Tabs W → Calls Tryd.prog 19 #[.agg (frc e g k n p)] W fun e' w' => e' = .returned (.string (ofBs (dat e g k n (bs p)))) ∧ Below W.heap.size W w') := fun W hW => written_any e g k n p p1 p2 (by omega) (by omega) (by omega) W hW
  generalize ofBs (dat e g k n (bs p)) = Y at *
  unfold okF at h
  simp only [Bool.and_eq_true] at h
  obtain ⟨⟨h1, h2⟩, h3⟩ := h
  clear p1 p2 p3 p4 p5
  unfold frc at *
  go_enter Tryd.func9, Tryd.ntmps9
  go_wp2_with fail
  refine (count_any e _).mono ?_
  rintro e1 w1 ⟨rfl, rfl⟩
  rw [h1]
  go_wp2_with fail
  refine (count_any g _).mono ?_
  rintro e1 w1 ⟨rfl, rfl⟩
  rw [h2]
  go_wp2_with fail
  refine (code_any k n _).mono ?_
  rintro e1 w2 ⟨rfl, b2⟩
  have T2 := T0.next b2
  have t2 := ht.below' T2.bl
  obtain ⟨c0, c1, c2, c3, c4⟩ := frc_cells T2.hs
  rw [h3]
  go_wp2_with fail
  refine (HW.out w2 t2).mono ?_
  rintro e1 w3 ⟨rfl, b3⟩
  have T3 := T2.next b3
  go_wp2_with fail
  go_ret2
  exact ⟨rfl, T3.bl⟩
/-- MAKE. -/
theorem make_any (E G K N : Int) (p : ByteArray) (w : World) (ht : Tabs w) :
    Calls Tryd.prog 9 #[.agg (frc E G K N p)] w fun e w' => e = .returned (.tuple #[.string (mkD E G K N p), .int .i64 (mkE E G K N p)]) ∧ Below w.heap.size w w' := by
  unfold mkD mkE
  by_cases h : okF E G K N = true
  · by_cases hp : p.size ≤ 65486
    · simp only [h, hp, if_true]
      exact make_ok E G K N p h hp w ht
    · simp only [h, hp, if_true, if_false]
      exact make_big E G K N p h (by omega) w
  · have h' : okF E G K N = false := by simpa using h
    simp only [h', Bool.false_eq_true, if_false]
    exact make_arg E G K N p h' w
end Go.Proofs.YtnepfllbfagfnaaDoor
