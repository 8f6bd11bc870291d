/- The document's One, and its matrix of a code; what is too large. -/
import Derived.Test.YtfbjpgcgdhhfnaaXOf
namespace Go.Proofs.Ytfbjpgcgdhhfnaa.Mx
open Go.RowKit
def rowTo (K j : Nat) (f : Nat → Nat) : List Nat := (List.range K).map fun b => if b < j then f b else 0
theorem rowTo_length (K j : Nat) (f : Nat → Nat) : (rowTo K j f).length = K := by simp [rowTo]
theorem rowTo_get (K j : Nat) (f : Nat → Nat) (b : Nat) (hb : b < K) : (rowTo K j f).getD b 0 = if b < j then f b else 0 := by
  rw [List.getD_eq_getElem?_getD]
  simp only [rowTo, List.getElem?_map, List.getElem?_range hb]; rfl
theorem rowTo_set (K j : Nat) (f : Nat → Nat) (hj : j < K) : (rowTo K j f).set j (f j) = rowTo K (j + 1) f := by
  apply ext_getD 0
  · simp [rowTo]
  · intro b hb
    rw [List.length_set, rowTo_length] at hb
    rw [rowTo_get _ _ _ _ hb]
    by_cases e : b = j
    · subst e; rw [getD_set_same _ _ _ _ (by rw [rowTo_length]; exact hb), if_pos (by omega)]
    · rw [getD_set_other _ _ _ _ _ e, rowTo_get _ _ _ _ hb]
      by_cases h2 : b < j
      · rw [if_pos h2, if_pos (by omega)]
      · rw [if_neg h2, if_neg (by omega)]
theorem rowTo_skip (K j : Nat) (f : Nat → Nat) (h0 : f j = 0) : rowTo K j f = rowTo K (j + 1) f := by
  unfold rowTo
  apply List.map_congr_left
  intro b _
  by_cases e : b = j
  · subst e; rw [if_neg (by omega), if_pos (by omega), h0]
  · by_cases h2 : b < j
    · rw [if_pos h2, if_pos (by omega)]
    · rw [if_neg h2, if_neg (by omega)]
theorem rowTo_zero (K : Nat) (f : Nat → Nat) : List.replicate K 0 = rowTo K 0 f := by
  unfold rowTo
  simp only [Nat.not_lt_zero, if_false]
  rw [List.map_const']; simp
theorem rowTo_end (K : Nat) (f : Nat → Nat) : rowTo K K f = (List.range K).map f := by
  unfold rowTo
  apply List.map_congr_left
  intro b hb
  rw [if_pos (List.mem_range.1 hb)]
theorem rowTo_lt (K j : Nat) (f : Nat → Nat) (hf : ∀ b, f b < 256) : ∀ x ∈ rowTo K j f, x < 256 := by
  intro x hx
  simp only [rowTo, List.mem_map] at hx
  obtain ⟨b, _, rfl⟩ := hx
  split
  · exact hf b
  · decide
theorem grid_take (c n : Nat) (f : Nat → Nat → Nat) (k : Nat) (hk : k < c) : (grid c n f).take k ++ [rowTo n n (f k)] = (grid c n f).take (k + 1) := by
  rw [rowTo_end, ← grid_row c n f k hk]
  exact take_getD _ _ _ (by rw [grid_length]; exact hk)
theorem refInv_nz (a : Nat) (ha : a < 256) (h0 : a ≠ 0) (w : World) : Calls Try.prog 38 #[.int .u8 (a : Int)] w fun e w' => e = .returned (.tuple #[.int .u8 ((Fld.inv a : Nat) : Int), .bool true]) ∧ w' = w := by
  refine (refInv_any a ha w).mono ?_
  rintro e w' ⟨rfl, h⟩
  rw [if_neg h0, decide_eq_true h0]
  exact ⟨rfl, h⟩
set_option maxRecDepth 20000 in
set_option maxHeartbeats 1000000 in
theorem refOf_t (K N : Nat) (h1 : 1 ≤ K) (h2 : K ≤ N) (h3 : N ≤ 12) (w : World) :
    Calls Try.prog 25 #[.agg #[.int .i64 (K : Int), .int .i64 (N : Int)]] w fun e w' => ∃ r, e = .returned (.tuple #[r, .int .i64 0]) ∧ Mat w' r (ofM K N) ∧ Below w.heap.size w w' := by
  have hm : mayC (K : Int) (N : Int) = true := by unfold mayC; rw [decide_eq_true_iff]; omega
  have hb0 : Below w.heap.size w (w.alloc (.cells #[.int .i64 (K : Int), .int .i64 (N : Int)] 24)) := (Below.refl _ _).alloc (Nat.le_refl _) _
  have hB0 : Has (w.alloc (.cells #[.int .i64 (K : Int), .int .i64 (N : Int)] 24)) w.heap.size #[.int .i64 (K : Int), .int .i64 (N : Int)] 24 := Has.new w _ _ _ rfl
  have HT : Hid (∀ k, k < N → (ofM K N).take k ++ [rowTo K K (ofVal K k)] = (ofM K N).take (k + 1)) := fun k hk => grid_take N K _ k hk
  have HE : Hid (ofM K N = (ofM K N).take N) := by unfold Hid; rw [List.take_of_length_le]; rw [ofM, grid_length]; exact Nat.le_refl _
  have HL : Hid (∀ k, ((ofM K N).take k).length ≤ 1000000) := fun k => by rw [List.length_take, ofM, grid_length]; omega
  go_enter Try.func25, Try.ntmps25
  go_wp2_with fail
  refine (refMayCode_any (K : Int) (N : Int) _).mono ?_
  rintro e w1 ⟨rfl, b1⟩
  rw [hm]
  have hB1 := hB0.below b1 hB0.lt
  have b1' := belowCall hb0 b1
  have hs1 : w.heap.size < w1.heap.size := hB1.lt
  clear hB0 hb0 b1
  go_wp2_with fail
  generalize hBS : w1.heap.size = BS at *
  have KK : Hid (∀ W, Below BS w1 W → W.cell? ⟨w.heap.size, 0, none⟩ = some (.int .i64 (K : Int)) ∧ W.cell? ⟨w.heap.size, 1, none⟩ = some (.int .i64 (N : Int))) := fun W hW => by
    rw [← hBS] at hW
    have h := hB1.below hW hB1.lt
    exact ⟨h.cell 0, h.cell 1⟩
  clear hB1
  go_loopw [4, 5] (fun vo vi wr => ∃ k : Nat, k ≤ N ∧ vi = .int .i64 (k : Int) ∧ Hid (OutRows BS wr vo ((ofM K N).take k)) ∧ Below BS w1 wr) (fun _ vi _ => N - (intOf vi).toNat)
  case atStart => exact ⟨0, by omega, rfl, by simpa [Hid] using OutRows.nil _ _, by rw [← hBS]; exact Below.refl _ _⟩
  case round =>
    obtain ⟨k, hk, rfl, ho, hb⟩ := hrel
    obtain ⟨wo, hwo⟩ : ∃ wo, wo = wr := ⟨_, rfl⟩
    subst hwo
    obtain ⟨kK, kN⟩ := KK.out wo hb
    by_cases hlt : k < N
    · have hmk := makes_u8 K (by omega)
      have d0 : (k : Int) < (N : Int) := by omega
      have hH := Has.new wo wo.heap.size (U8s (List.replicate K 0)) 5 rfl
      rw [rowTo_zero K (ofVal K k)] at hH
      have HH : Hid (Has (wo.alloc (.cells (U8s (List.replicate K 0)) 5)) wo.heap.size (U8s (rowTo K 0 (ofVal K k))) 5) := by rw [← rowTo_zero K (ofVal K k)] at hH ⊢; exact hH
      clear hH
      have BA : Below wo.heap.size wo (wo.alloc (.cells (U8s (List.replicate K 0)) 5)) := (Below.refl _ _).alloc (Nat.le_refl _) _
      have hBW : BS ≤ wo.heap.size := by rw [← hBS]; exact hb.size
      generalize hg : wo.heap.size = g at *
      go_wp2_with fail
      clear hmk
      go_loopw [7] (fun vj W => ∃ j : Nat, j ≤ K ∧ vj = .int .i64 (j : Int) ∧ Hid (Has W g (U8s (rowTo K j (ofVal K k))) 5) ∧ Below g wo W) (fun vj _ => K - (intOf vj).toNat)
      case atStart => exact ⟨0, by omega, rfl, HH, BA⟩
      case round =>
        obtain ⟨j, hj, rfl, hV, hbV⟩ := hrel
        clear HH BA
        have hbV1 : Below BS w1 wr := hb.trans (hbV.mono hBW)
        have kK1 := (KK.out _ hbV1).1
        by_cases hjK : j < K
        · have d1 : (j : Int) < (K : Int) := by omega
          have c1 := (hV.out.cell j).trans (U8s_get _ j (by rw [rowTo_length]; exact hjK))
          have f1 := hV.out.frozen j
          have hfin : ∀ x : Nat, Below g wo (wr.setCell ⟨g, j, none⟩ (.int .u8 (x : Int))) := fun x => hbV.setCell (Nat.le_refl _) _
          have HA : Hid (Has (wr.setCell ⟨g, j, none⟩ (.int .u8 ((ofVal K k j : Nat) : Int))) g (U8s (rowTo K (j + 1) (ofVal K k))) 5) := by
            have := hV.out.set j (.int .u8 ((ofVal K k j : Nat) : Int))
            rw [U8s_set, rowTo_set _ _ _ hjK] at this; exact this
          generalize (rowTo K j (ofVal K k)).getD j 0 = y at *
          by_cases hkK : k < K
          · have e1 : decide ((K : Int) ≤ (k : Int)) = false := by simp; omega
            by_cases hkj : k = j
            · have e2 : ((k : Int) == (j : Int)) = true := by simp; omega
              have hv1 : ofVal K k j = 1 := by unfold ofVal; rw [if_pos hkK, if_pos hkj.symm]
              rw [hv1] at HA
              have hf1 := hfin 1
              simp only [Int.cast_ofNat_Int] at HA hf1
              clear hfin
              go_wp2_with fail
              exact ⟨⟨j + 1, by omega, rfl, HA, hf1⟩, by simp [intOf]; omega⟩
            · have e2 : ((k : Int) == (j : Int)) = false := by rw [beq_eq_false_iff_ne]; omega
              have hv0 : ofVal K k j = 0 := by unfold ofVal; rw [if_pos hkK, if_neg (by omega)]
              have hV' := hV.out
              rw [rowTo_skip _ _ _ hv0] at hV'
              have HV' : Hid _ := hV'
              clear hV' hfin
              go_wp2_with fail
              exact ⟨⟨j + 1, by omega, rfl, HV', hbV⟩, by simp [intOf]; omega⟩
          · have e1 : decide ((K : Int) ≤ (k : Int)) = true := by simp; omega
            have hxl : k ^^^ j < 256 := Nat.xor_lt_two_pow (n := 8) (by omega) (by omega)
            have hx0 : k ^^^ j ≠ 0 := xor_ne (by omega)
            have X1 : bits .xor .i64 (k : Int) (j : Int) = ((k ^^^ j : Nat) : Int) := i64_xor_nat k j (by omega) (by omega)
            have X2 : IntKind.u8.wrap ((k ^^^ j : Nat) : Int) = ((k ^^^ j : Nat) : Int) := by rw [IntKind.wrap_u8']; omega
            have hvi : ofVal K k j = Fld.inv (k ^^^ j) := by unfold ofVal; rw [if_neg hkK]
            rw [hvi] at HA
            generalize hxx : k ^^^ j = x at *
            have hf1 := hfin (Fld.inv x)
            clear hfin
            go_wp2_with fail
            refine (refInv_nz x hxl hx0 wr).mono ?_
            rintro e w4 ⟨rfl, rfl⟩
            generalize Fld.inv x = ix at *
            go_wp2_with fail
            exact ⟨⟨j + 1, by omega, rfl, HA, hf1⟩, by simp [intOf]; omega⟩
        · obtain rfl : j = K := by omega
          have hrl : (rowTo j j (ofVal j k)).length = j := rowTo_length _ _ _
          have hr := Owns.ofHas (base := BS) hV.out hBW (by rw [hrl]; omega)
          rw [hrl] at hr
          have HR : Hid (Owns 5 BS (.slice (some ⟨g, 0, none⟩) j j) (U8s (rowTo j j (ofVal j k))).toList wr) := hr
          have ho2 := ho.out.below (by rw [hg]; exact hbV)
          have hs : BS ≤ wr.heap.size := by rw [← hBS]; exact hbV1.size
          have hlt' := rowTo_lt j j (ofVal j k) (fun b => ofVal_lt _ _ _)
          clear hr
          go_wp2_with (refine wpList_appRow rfl (.tmp 47) (.tmp 49) rfl BS _ _ ((ofM j N).take k) (rowTo j j (ofVal j k)) rfl (by exact ho2.below ((Below.refl _ _).alloc (Nat.le_refl _) _)) _ _ rfl (by exact Has.new _ _ _ _ rfl) (by exact HR.out.alloc _) hlt' (HL.out k) (Nat.le_trans hs (by simp)) ?_; intro v' w3 ho3 hb3)
          have B3 : Below BS w1 w3 := (belowAlloc hbV1 _ hs).trans hb3
          rw [HT.out k hlt] at ho3
          exact ⟨⟨k + 1, by omega, rfl, ho3, B3⟩, by simp [intOf]; omega⟩
    · obtain rfl : k = N := by omega
      go_wp2_with fail
      go_ret2
      have ho' := ho.out
      rw [← HE.out] at ho'
      exact ⟨_, rfl, ho'.mat (by rw [ofM, grid_length]; omega) (fun i hi => by rw [ofM, grid_length] at hi; rw [ofM, grid_row_length _ _ _ _ hi]; omega), b1'.trans (hb.mono (by omega))⟩
theorem refOf_any (K N : Int) (w : World) :
    Calls Try.prog 25 #[.agg #[.int .i64 K, .int .i64 N]] w fun e w' => ∃ r, e = .returned (.tuple #[r, .int .i64 (errC K N)]) ∧ Mat w' r (ansC K N) ∧ Below w.heap.size w w' := by
  cases h : mayC K N
  · have hE : errC K N = 1 := by simp [errC, h]
    have hA : ansC K N = [] := by simp [ansC, h]
    rw [hE, hA]
    have hb0 : Below w.heap.size w (w.alloc (.cells #[.int .i64 K, .int .i64 N] 24)) := (Below.refl _ _).alloc (Nat.le_refl _) _
    go_enter Try.func25, Try.ntmps25
    go_wp2_with fail
    refine (refMayCode_any K N _).mono ?_
    rintro e w1 ⟨rfl, b1⟩
    rw [h]
    have b1' := belowCall hb0 b1
    go_wp2_with fail
    go_ret2
    exact ⟨.slice none 0 0, rfl, Mat.nil _, b1'⟩
  · have h' : 1 ≤ K ∧ K ≤ N ∧ N ≤ 12 := of_decide_eq_true h
    obtain ⟨k, rfl⟩ : ∃ k : Nat, K = (k : Int) := ⟨K.toNat, by omega⟩
    obtain ⟨n, rfl⟩ : ∃ n : Nat, N = (n : Int) := ⟨N.toNat, by omega⟩
    have hE : errC (k : Int) (n : Int) = 0 := by simp [errC, h]
    have hA : ansC (k : Int) (n : Int) = ofM k n := by simp [ansC, h]
    rw [hE, hA]
    exact refOf_t k n (by omega) (by omega) (by omega) w
end Go.Proofs.Ytfbjpgcgdhhfnaa.Mx
