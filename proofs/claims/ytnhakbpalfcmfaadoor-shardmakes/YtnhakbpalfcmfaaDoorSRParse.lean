/- The document's Parse. -/
import Derived.Test.YtnhakbpalfcmfaaDoorSParse
import Derived.Test.YtnhakbpalfcmfaaDoorSDig
namespace Go.Proofs.YtnhakbpalfcmfaaDoor
open Go.RowKit
set_option maxRecDepth 20000 in
theorem refParse_any (s : ByteArray) (hs : s.size ≤ 1000) (w : World) :
    Calls Tryd.prog 12 #[.string s] w fun e w' => PAns s e ∧ Below w.heap.size w w' := by
  by_cases hsm : s.size < 66
  · have hno : ¬ ∃ d i, IsN s d i := by
      rintro ⟨d, i, hN⟩
      have h1 := nm_length hN.1 hN.2.1
      rw [← ofBs_size, ← hN.2.2] at h1
      omega
    have q0 : (s.size : Int) < 66 := by omega
    go_enter Tryd.func12, Tryd.ntmps12
    go_wp2_with fail
    go_ret3
    exact ⟨.inr ⟨hno, rfl⟩, Below.refl _ _⟩
  have q0 : ¬ (s.size : Int) < 66 := by omega
  have q1 : (64 : Int) ≤ (s.size : Int) := by omega
  have hx : (s.extract 0 64).size = 64 := by rw [ByteArray.size_extract]; omega
  have hyes : ∀ d i, IsN s d i → s.extract 0 64 = ofBs (Sha.hex (bs d)) := fun d i h => (nm_head h).1
  have HY : Hid _ := hyes
  clear hyes
  go_enter Tryd.func12, Tryd.ntmps12
  go_wp2_with fail
  refine (refUnhex_any (s.extract 0 64) (by omega) w).mono ?_
  rintro e w1 ⟨hr, b1⟩
  rcases hr with ⟨hH, rfl⟩ | ⟨hH, rfl⟩
  · have hu := unhex_size _ hH
    have HD : Hid (∀ d i, IsN s d i → d = ofBs (Sha.unhex (bs (s.extract 0 64)))) := by
      intro d i h
      rw [HY.out d i h, bs_ofBs _ (hex_lt _ (bs_lt d)), Sha.unhex_hex _ (bs_lt d), ofBs_bs]
    clear hH HY
    generalize ofBs (Sha.unhex (bs (s.extract 0 64))) = d at *
    have hd : d.size = 32 := by omega
    clear hu hx
    go_wp2_with fail
    go_loopw [7] (fun v wr => ∃ k : Nat, k ≤ 12 ∧ v = .int .i64 (k : Int) ∧ (∀ j : Nat, j < k → ofBs (nm (bs d) (j : Int)) ≠ s) ∧ Below w.heap.size w wr) (fun v _ => 12 - (intOf v).toNat)
    case atStart => exact ⟨0, by omega, rfl, fun j hj => by omega, b1⟩
    case round =>
      clear b1
      obtain ⟨k, hk, rfl, hall, b1⟩ := hrel
      have Hall : Hid _ := hall
      clear hall
      by_cases hlt : k < 12
      · have q2 : (k : Int) < 12 := by omega
        go_wp2_with fail
        refine (refName_any d (k : Int) (by omega) (by omega) (by omega) wr).mono ?_
        rintro e w2 ⟨rfl, b2⟩
        have B2 := belowCall b1 b2
        by_cases he : ofBs (nm (bs d) (k : Int)) = s
        · have hN : Hid (IsN s d k) := ⟨hd, hlt, he.symm⟩
          rw [he]
          clear he
          go_wp2_with fail
          go_ret3
          exact ⟨.inl ⟨d, k, hN.out, rfl⟩, B2⟩
        · have hne : ((ofBs (nm (bs d) (k : Int))).toList == s.toList) = false := str_ne fun e => he (bs_inj e)
          have HA : Hid (∀ j : Nat, j < k + 1 → ofBs (nm (bs d) (j : Int)) ≠ s) := by
            intro j hj
            by_cases a : j < k
            · exact Hall.out j a
            · obtain rfl : j = k := by omega
              exact he
          clear he
          generalize ofBs (nm (bs d) (k : Int)) = A at *
          go_wp2_with fail
          exact ⟨⟨k + 1, by omega, by go_num, HA.out, B2⟩, by simp [intOf]; omega⟩
      · obtain rfl : k = 12 := by omega
        have hno : Hid (¬ ∃ d i, IsN s d i) := by
          rintro ⟨d', i, hN⟩
          obtain rfl := HD.out d' i hN
          exact Hall.out i hN.2.1 hN.2.2.symm
        go_wp2_with fail
        go_ret3
        exact ⟨.inr ⟨hno.out, rfl⟩, b1⟩
  · have hno : Hid (¬ ∃ d i, IsN s d i) := by
      rintro ⟨d, i, hN⟩
      apply hH
      rw [HY.out d i hN, bs_ofBs _ (hex_lt _ (bs_lt d))]
      exact Sha.isHex_hex _ (bs_lt d)
    go_wp2_with fail
    go_ret3
    exact ⟨.inr ⟨hno.out, rfl⟩, b1⟩
end Go.Proofs.YtnhakbpalfcmfaaDoor
