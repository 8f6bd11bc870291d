/- The matrix of a code, of the program. -/
import Derived.Test.YtfbjpgcgdhhfnaaXCodes
namespace Go.Proofs.Ytfbjpgcgdhhfnaa.Mx
open Go.RowKit
def ofVal (K i j : Nat) : Nat := if i < K then (if j = i then 1 else 0) else Fld.inv (i ^^^ j)
def ofM (K N : Nat) : List (List Nat) := grid N K (ofVal K)
def ansC (K N : Int) : List (List Nat) := if mayC K N then ofM K.toNat N.toNat else []
def errC (K N : Int) : Int := if mayC K N then 0 else 1
theorem ofVal_lt (K i j : Nat) : ofVal K i j < 256 := by
  unfold ofVal
  split
  · split <;> decide
  · exact Fld.inv_lt _
theorem xor_ne {i j : Nat} (h : i ≠ j) : i ^^^ j ≠ 0 := by
  intro h0
  apply h
  have := congrArg (· ^^^ j) h0
  simpa [Nat.xor_assoc] using this
theorem inv_nz (v : Value) (a : Nat) (ha : a < 256) (h0 : a ≠ 0) (w : World) (hf : IsF w v) : Calls Try.prog 32 #[v, .int .u8 (a : Int)] w fun e w' => e = .returned (.tuple #[.int .u8 ((Fld.inv a : Nat) : Int), .bool true]) ∧ Below w.heap.size w w' := by
  refine (inv_any v a ha w hf).mono ?_
  rintro e w' ⟨rfl, h⟩
  rw [if_neg h0, decide_eq_true h0]
  exact ⟨rfl, h⟩
/-- what stands behind i rows, and j numbers of row i -/
def ofAt (K i j a b : Nat) : Nat := if a < i ∨ (a = i ∧ b < j) then ofVal K a b else 0
set_option maxRecDepth 20000 in
set_option maxHeartbeats 1000000 in
theorem of_t (K N : Nat) (h1 : 1 ≤ K) (h2 : K ≤ N) (h3 : N ≤ 12) (w : World) :
    Calls Try.prog 19 #[.agg #[.int .i64 (K : Int), .int .i64 (N : Int)]] w fun e w' => ∃ r, e = .returned (.tuple #[r, .int .i64 0]) ∧ NewMat w.heap.size w' r (ofM K N) ∧ Below w.heap.size w w' := by
  have hm : mayC (K : Int) (N : Int) = true := by unfold mayC; rw [decide_eq_true_iff]; omega
  have hb0 : Below w.heap.size w (w.alloc (.cells #[.int .i64 (K : Int), .int .i64 (N : Int)] 24)) := (Below.refl _ _).alloc (Nat.le_refl _) _
  have hB0 : Has (w.alloc (.cells #[.int .i64 (K : Int), .int .i64 (N : Int)] 24)) w.heap.size #[.int .i64 (K : Int), .int .i64 (N : Int)] 24 := Has.new w _ _ _ rfl
  go_enter Try.func19, Try.ntmps19
  go_wp2_with fail
  refine (mayCode_any (K : Int) (N : Int) _).mono ?_
  rintro e w1 ⟨rfl, b1⟩
  rw [hm]
  have hB1 := hB0.below b1 hB0.lt
  have b1' := belowCall hb0 b1
  clear hB0 hb0 b1
  go_wp2_with fail
  refine (new_any w1).mono ?_
  rintro e w2 ⟨rfl, hF, b2⟩
  have hB2 := hB1.below b2 hB1.lt
  have b2' := belowCall b1' b2
  have kK : w2.cell? ⟨w.heap.size, 0, none⟩ = some (.int .i64 (K : Int)) := hB2.cell 0
  have kN : w2.cell? ⟨w.heap.size, 1, none⟩ = some (.int .i64 (N : Int)) := hB2.cell 1
  generalize hfb : w1.heap.size = fb at *
  have HF2 : Hid (Has w2 fb FC 79) := hF
  clear hF b2 hB1 b1'
  go_wp2_with fail
  refine (noughts_any N K (by omega) (by omega) w2).mono ?_
  rintro e w3 ⟨rfl, hR, b3⟩
  rw [grid_zero] at hR
  go_wp2_with fail
  clear kK kN
  generalize hTT : w2.heap.size = T at *
  have hwT : w.heap.size ≤ T := by rw [← hTT]; exact b2'.size
  have KK : Hid (∀ W, Below T w2 W → W.cell? ⟨w.heap.size, 0, none⟩ = some (.int .i64 (K : Int)) ∧ IsF W (.pointer (some ⟨fb, 0, none⟩))) := fun W hW => by
    rw [← hTT] at hW
    have h := hB2.below hW hB2.lt
    exact ⟨h.cell 0, .inr ⟨fb, rfl, HF2.out.below hW HF2.out.lt⟩⟩
  go_loopw [20] (fun vi wr => ∃ k : Nat, k ≤ N ∧ vi = .int .i64 (k : Int) ∧ Hid (RowsAt T T N wr (grid N K (ofAt K k 0))) ∧ Below T w2 wr) (fun vi _ => N - (intOf vi).toNat)
  case atStart => exact ⟨0, by omega, rfl, by unfold Hid; rw [grid_congr (f' := fun _ _ => 0) (fun j i _ _ => by simp [ofAt])]; exact hR, b3⟩
  case round =>
    obtain ⟨k, hk, rfl, hW, hb⟩ := hrel
    obtain ⟨wo, hwo⟩ : ∃ wo, wo = wr := ⟨_, rfl⟩
    subst hwo
    clear hR b3
    by_cases hlt : k < N
    · obtain ⟨gw, a1, a2, a3, a4, a5⟩ := hW.out.write k (by rw [grid_length]; exact hlt)
      rw [grid_row_length _ _ _ _ hlt] at a1 a4
      have kK := (KK.out wo hb).1
      have d0 : (k : Int) < (N : Int) := by omega
      by_cases hkK : k < K
      · obtain ⟨a6, a7⟩ := a4 k hkK
        have HA : Hid (RowsAt T T N (wo.setCell ⟨gw, k, none⟩ (.int .u8 ((1 : Nat) : Int))) (grid N K (ofAt K (k + 1) 0))) := by
          have := a5 k 1 (by decide)
          rw [grid_set _ _ _ _ _ _ hlt] at this
          unfold Hid
          rw [grid_congr (f' := fun a b => if a = k ∧ b = k then 1 else ofAt K k 0 a b)]
          · exact this
          · intro a b ha hb
            simp only [ofAt, ofVal]
            by_cases e1 : a = k ∧ b = k
            · rw [if_pos e1, if_pos (show a < k + 1 ∨ a = k + 1 ∧ b < 0 by omega), if_pos (show a < K by omega), if_pos (show b = a by omega)]
            · rw [if_neg e1]
              by_cases e2 : a < k
              · rw [if_pos (show a < k + 1 ∨ a = k + 1 ∧ b < 0 by omega), if_pos (show a < k ∨ a = k ∧ b < 0 by omega)]
              · rw [if_neg (show ¬ (a < k ∨ a = k ∧ b < 0) by omega)]
                by_cases e3 : a = k
                · rw [if_pos (show a < k + 1 ∨ a = k + 1 ∧ b < 0 by omega), if_pos (show a < K by omega), if_neg (show ¬ b = a by omega)]
                · rw [if_neg (show ¬ (a < k + 1 ∨ a = k + 1 ∧ b < 0) by omega)]
        have hfin : Below T w2 (wo.setCell ⟨gw, k, none⟩ (.int .u8 ((1 : Nat) : Int))) := hb.setCell a2 _
        simp only [Int.cast_ofNat_Int] at HA hfin
        clear a4 a5 hW
        generalize ((grid N K (ofAt K k 0)).getD k []).getD k 0 = y at *
        have d1 : decide ((k : Int) < (K : Int)) = true := by simp; omega
        have d2 : (k : Int) < (K : Int) := by omega
        go_wp2_with fail
        exact ⟨⟨k + 1, by omega, rfl, HA, hfin⟩, by simp [intOf]; omega⟩
      · have d1 : decide ((k : Int) < (K : Int)) = false := by simp; omega
        clear a4 a5 a2 a3
        have A1 := a1
        go_wp2_with fail
        go_loopw [34] (fun vj W => ∃ j : Nat, j ≤ K ∧ vj = .int .i64 (j : Int) ∧ Hid (RowsAt T T N W (grid N K (ofAt K k j))) ∧ W.cell? ⟨T, k, none⟩ = some (.slice (some ⟨gw, 0, none⟩) K K) ∧ Below T w2 W) (fun vj _ => K - (intOf vj).toNat)
        case atStart => exact ⟨0, by omega, rfl, hW, A1, hb⟩
        case round =>
          obtain ⟨j, hj, rfl, hV, hT, hbV⟩ := hrel
          clear hW hb a1 A1 kK
          by_cases hjK : j < K
          · have hF := (KK.out _ hbV).2
            have HFF : Hid (IsF wr (.pointer (some ⟨fb, 0, none⟩))) := hF
            clear hF
            have hxl : k ^^^ j < 256 := Nat.xor_lt_two_pow (n := 8) (by omega) (by omega)
            have hx0 : k ^^^ j ≠ 0 := xor_ne (by omega)
            have X1 : bits .xor .i64 (k : Int) (j : Int) = ((k ^^^ j : Nat) : Int) := i64_xor_nat k j (by omega) (by omega)
            have X2 : IntKind.u8.wrap ((k ^^^ j : Nat) : Int) = ((k ^^^ j : Nat) : Int) := by rw [IntKind.wrap_u8']; omega
            have HV : Hid (ofVal K k j = Fld.inv (k ^^^ j)) := by unfold Hid ofVal; rw [if_neg hkK]
            generalize hxx : k ^^^ j = x at *
            have d2 : (j : Int) < (K : Int) := by omega
            go_wp2_with fail
            refine (inv_nz _ x hxl hx0 wr HFF.out).mono ?_
            rintro e w4 ⟨rfl, b4⟩
            obtain ⟨gx, a1, a2, a3, a4, a5⟩ := (hV.out.below b4).write k (by rw [grid_length]; exact hlt)
            have hT4 := cell_below b4 (World.block_lt_of_cell? (h := hT)) hT
            rw [grid_row_length _ _ _ _ hlt] at a1 a4
            rw [hT4] at a1
            simp only [Option.some.injEq, Value.slice.injEq, Addr.mk.injEq, and_true] at a1
            obtain rfl := a1
            obtain ⟨a6, a7⟩ := a4 j hjK
            have HA : Hid (RowsAt T T N (w4.setCell ⟨gw, j, none⟩ (.int .u8 ((Fld.inv x : Nat) : Int))) (grid N K (ofAt K k (j + 1)))) := by
              have := a5 j (Fld.inv x) (Fld.inv_lt _)
              rw [grid_set _ _ _ _ _ _ hlt] at this
              unfold Hid
              rw [grid_congr (f' := fun a b => if a = k ∧ b = j then Fld.inv x else ofAt K k j a b)]
              · exact this
              · intro a b ha hb
                by_cases e1 : a = k ∧ b = j
                · rw [if_pos e1, ← HV.out]
                  simp only [ofAt]
                  rw [if_pos (show a < k ∨ a = k ∧ b < j + 1 by omega), e1.1, e1.2]
                · rw [if_neg e1]
                  simp only [ofAt]
                  by_cases e2 : a < k ∨ a = k ∧ b < j
                  · rw [if_pos e2, if_pos (show a < k ∨ a = k ∧ b < j + 1 by omega)]
                  · rw [if_neg e2, if_neg (show ¬ (a < k ∨ a = k ∧ b < j + 1) by omega)]
            have hb4 : Below T w2 w4 := hbV.trans (b4.mono (Nat.le_trans (by omega) hbV.size))
            have hfin : Below T w2 (w4.setCell ⟨gw, j, none⟩ (.int .u8 ((Fld.inv x : Nat) : Int))) := hb4.setCell a2 _
            have hTf : Hid ((w4.setCell ⟨gw, j, none⟩ (.int .u8 ((Fld.inv x : Nat) : Int))).cell? ⟨T, k, none⟩ = some (.slice (some ⟨gw, 0, none⟩) K K)) := by
              unfold Hid; rw [World.cell?_setCell_far _ _ _ _ a3]; exact hT4
            generalize ((grid N K (ofAt K k j)).getD k []).getD j 0 = y at *
            generalize Fld.inv x = ix at *
            clear a4 a5 hV
            go_wp2_with fail
            exact ⟨⟨j + 1, by omega, rfl, HA, hTf.out, hfin⟩, by simp [intOf]; omega⟩
          · obtain rfl : j = K := by omega
            go_wp2_with fail
            exact ⟨⟨k + 1, by omega, rfl, by
              unfold Hid
              rw [grid_congr (f' := ofAt j k j) (fun a b _ hb => by
                simp only [ofAt]
                by_cases e : a < k + 1
                · rw [if_pos (by omega), if_pos (by omega)]
                · rw [if_neg (by omega), if_neg (by omega)])]
              exact hV.out, hbV⟩, by simp [intOf]; omega⟩
    · obtain rfl : k = N := by omega
      go_wp2_with fail
      go_ret2
      have hW' := hW.out
      rw [grid_congr (f' := ofVal K) (fun a b ha _ => by simp only [ofAt]; rw [if_pos (by omega)])] at hW'
      have hnew := grid_new hW' (by omega) (by omega)
      have hR2 : RowsAt w.heap.size T k wo (grid k K (ofVal K)) := by
        obtain ⟨p1, p2, B, p3, p4⟩ := hW'
        exact ⟨p1, Nat.le_trans hwT p2, B, p3, fun i hi => ⟨Nat.le_trans hwT (p4 i hi).1, (p4 i hi).2⟩⟩
      exact ⟨_, rfl, grid_new hR2 (by omega) (by omega), b2'.trans (hb.mono hwT)⟩
theorem of_any (K N : Int) (w : World) :
    Calls Try.prog 19 #[.agg #[.int .i64 K, .int .i64 N]] w fun e w' => ∃ r, e = .returned (.tuple #[r, .int .i64 (errC K N)]) ∧ NewMat w.heap.size w' r (ansC K N) ∧ Below w.heap.size w w' := by
  cases h : mayC K N
  · have hE : errC K N = 1 := by simp [errC, h]
    have hA : ansC K N = [] := by simp [ansC, h]
    rw [hE, hA]
    have hb0 : Below w.heap.size w (w.alloc (.cells #[.int .i64 K, .int .i64 N] 24)) := (Below.refl _ _).alloc (Nat.le_refl _) _
    go_enter Try.func19, Try.ntmps19
    go_wp2_with fail
    refine (mayCode_any K N _).mono ?_
    rintro e w1 ⟨rfl, b1⟩
    rw [h]
    have b1' := belowCall hb0 b1
    go_wp2_with fail
    go_ret2
    exact ⟨.slice none 0 0, rfl, NewMat.nil _ _, b1'⟩
  · have h' : 1 ≤ K ∧ K ≤ N ∧ N ≤ 12 := of_decide_eq_true h
    obtain ⟨k, rfl⟩ : ∃ k : Nat, K = (k : Int) := ⟨K.toNat, by omega⟩
    obtain ⟨n, rfl⟩ : ∃ n : Nat, N = (n : Int) := ⟨N.toNat, by omega⟩
    have hE : errC (k : Int) (n : Int) = 0 := by simp [errC, h]
    have hA : ansC (k : Int) (n : Int) = ofM k n := by simp [ansC, h]
    rw [hE, hA]
    exact of_t k n (by omega) (by omega) (by omega) w
end Go.Proofs.Ytfbjpgcgdhhfnaa.Mx
