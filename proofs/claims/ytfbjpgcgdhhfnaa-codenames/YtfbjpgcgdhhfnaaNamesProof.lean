/- CodeNames is true: the examples, the limits and the errors of package code are as the document has them. No condition behind it. -/
import Derived.Test.YtfbjpgcgdhhfnaaRows
import Derived.Test.YtfbjpgcgdhhfnaaCOpen
import Derived.Test.YtfbjpgcgdhhfnaaCNTab
import Derived.Deep.RegionHeld3
namespace Go.Proofs.Ytfbjpgcgdhhfnaa
open Go.RowKit
theorem zeros_of (n : Nat) (hn : n ≤ 1000000) : ∃ (cz : Array Value) (s : ByteArray) (l : List Nat), s = ofBs l ∧ l.length = n ∧ (∀ x ∈ l, x < 256) ∧ (∀ W : World, (Instr.makeSlice 31 (.int .i64 (n : Int)) (.int .i64 (n : Int))).run Try.prog W = .ok (.slice (some ⟨W.heap.size, 0, none⟩) n n) (W.alloc (.cells cz 5))) ∧
    (∀ W W' : World, Has W' W.heap.size cz 5 → (convert 31 9 (.slice (some ⟨W.heap.size, 0, none⟩) n n)).run Try.prog W' = .ok (.string s) W') := by
  refine ⟨U8s (List.replicate n 0), _, List.replicate n 0, rfl, by simp, by simp, makes_u8 n hn, fun W W' hH => ?_⟩
  refine conv_row (l := List.replicate n 0) ⟨_, n, by simp, by simp; omega, by simp, fun _ => ⟨W.heap.size, 0, rfl, hH.lt, fun j hj => ?_⟩⟩
  have hj' : j < n := by simpa using hj
  rw [Nat.zero_add, hH.cell]
  simp [U8s, List.getD_eq_getElem?_getD, hj']
theorem tab_K : ∀ c ∈ tabC, c.er = 0 → c.K = 2 := by decide +kernel
set_option maxRecDepth 20000 in
set_option maxHeartbeats 16000000 in
theorem names_walk (w : World) : Calls Try.prog 3 #[] w fun e w' => e = .returned (.bool true) ∧ Below w.heap.size w w' := by
  have HS1 : Hid (∀ W : World, Calls Try.prog 8 #[.agg #[.int .i64 3, .int .i64 2], .int .i64 1] W fun e w' => e = .returned (.tuple #[.int .i64 0, .int .i64 1]) ∧ Below W.heap.size W w') := fun W => size_any 3 2 1 W
  have HS2 : Hid (∀ W : World, Calls Try.prog 8 #[.agg #[.int .i64 2, .int .i64 3], .int .i64 (-1)] W fun e w' => e = .returned (.tuple #[.int .i64 0, .int .i64 1]) ∧ Below W.heap.size W w') := fun W => size_any 2 3 (-1) W
  have HS3 : Hid (∀ W : World, Calls Try.prog 8 #[.agg #[.int .i64 2, .int .i64 3], .int .i64 32769] W fun e w' => e = .returned (.tuple #[.int .i64 0, .int .i64 40]) ∧ Below W.heap.size W w') := fun W => size_any 2 3 32769 W
  have HS4 : Hid (∀ W : World, Calls Try.prog 8 #[.agg #[.int .i64 2, .int .i64 3], .int .i64 32768] W fun e w' => e = .returned (.tuple #[.int .i64 16388, .int .i64 0]) ∧ Below W.heap.size W w') := fun W => size_any 2 3 32768 W
  have HE1 : Hid (∀ W : World, Calls Try.prog 9 #[.agg #[.int .i64 3, .int .i64 2], .string ⟨#[]⟩] W fun e w' => ∃ r, e = .returned (.tuple #[r, .int .i64 1]) ∧ Strs w' r (ansE 3 2 []) ∧ Below W.heap.size W w') := fun W => encode_any 3 2 [] W (by simp)
  have HE4 : Hid (∀ W : World, Calls Try.prog 9 #[.agg #[.int .i64 12, .int .i64 12], .string ⟨#[]⟩] W fun e w' => ∃ T, e = .returned (.tuple #[.slice (some ⟨T, 0, none⟩) 12 12, .int .i64 0]) ∧ Has w' T (strTo 12 (payL 12 []) 12) 9 ∧ W.heap.size ≤ T ∧ Below W.heap.size W w') := fun W => encode_ok 12 12 [] W (by decide) (by decide) (by decide) (by decide) (by simp)
  have HE5 : Hid (∀ W : World, Calls Try.prog 9 #[.agg #[.int .i64 2, .int .i64 3], .string ⟨#[97, 98, 99]⟩] W fun e w' => ∃ T, e = .returned (.tuple #[.slice (some ⟨T, 0, none⟩) 3 3, .int .i64 0]) ∧ Has w' T (strTo 3 (payL 2 abc) 3) 9 ∧ W.heap.size ≤ T ∧ Below W.heap.size W w') := fun W =>
    encode_ok 2 3 [97, 98, 99] W (by decide) (by decide) (by decide) (by decide) (by decide)
  obtain ⟨cz, sZ, lz, esz, hlz, hlzb, hmk0, hcv0⟩ := zeros_of 32768 (by decide)
  obtain ⟨cy, sY, ly, esy, hly, hlyb, hmk1, hcv1⟩ := zeros_of 32769 (by decide)
  have HE2 : Hid (∀ W : World, Calls Try.prog 9 #[.agg #[.int .i64 12, .int .i64 12], .string sZ] W fun e w' => ∃ T, e = .returned (.tuple #[.slice (some ⟨T, 0, none⟩) 12 12, .int .i64 0]) ∧ Has w' T (strTo 12 (payL 12 lz) 12) 9 ∧ W.heap.size ≤ T ∧ Below W.heap.size W w') := fun W => by
    rw [esz]; exact encode_ok 12 12 lz W (by decide) (by decide) (by decide) (by rw [hlz]; decide) hlzb
  have HE3 : Hid (∀ W : World, Calls Try.prog 9 #[.agg #[.int .i64 2, .int .i64 3], .string sY] W fun e w' => ∃ r, e = .returned (.tuple #[r, .int .i64 40]) ∧ Below W.heap.size W w') := fun W => by
    rw [esy]
    refine (encode_any 2 3 ly W hlyb).mono ?_
    rintro e w' ⟨r, rfl, _, hb⟩
    have : errE 2 3 ly = 40 := by unfold errE; rw [hly]; rfl
    rw [this]; exact ⟨r, rfl, hb⟩
  have HP2 : Hid ((ofBs (payL 12 lz 11)).size = 2732) := by
    show (ofBs (payL 12 lz 11)).size = 2732
    rw [ofBs_size, payL_length, hlz]; rfl
  have hmkZ : ∀ W : World, (Instr.makeSlice 31 (.int .i64 32768) (.int .i64 32768)).run Try.prog W = .ok (.slice (some ⟨W.heap.size, 0, none⟩) 32768 32768) (W.alloc (.cells cz 5)) := hmk0
  have hmkY : ∀ W : World, (Instr.makeSlice 31 (.int .i64 32769) (.int .i64 32769)).run Try.prog W = .ok (.slice (some ⟨W.heap.size, 0, none⟩) 32769 32769) (W.alloc (.cells cy 5)) := hmk1
  have hcvZ : ∀ W : World, (convert 31 9 (.slice (some ⟨W.heap.size, 0, none⟩) 32768 32768)).run Try.prog (W.alloc (.cells cz 5)) = .ok (.string sZ) (W.alloc (.cells cz 5)) := fun W => hcv0 W _ (Has.new W _ _ 5 rfl)
  have hcvY : ∀ W : World, (convert 31 9 (.slice (some ⟨W.heap.size, 0, none⟩) 32769 32769)).run Try.prog (W.alloc (.cells cy 5)) = .ok (.string sY) (W.alloc (.cells cy 5)) := fun W => hcv1 W _ (Has.new W _ _ 5 rfl)
  have hcvY' : ∀ W : World, (convert 31 9 (.slice (some ⟨W.heap.size, 0, none⟩) 32769 32769)).run Try.prog (W.alloc (.cells cy 5)).drew = .ok (.string sY) (W.alloc (.cells cy 5)).drew := fun W => hcv1 W _ (Has.new W _ _ 5 rfl).drew
  clear esz esy hmk0 hmk1 hcv0 hcv1 hlz hly hlzb hlyb
  go_enter Try.func3, Try.ntmps3
  go_wp2_with fail
  refine (works_true _).mono ?_
  rintro e w1 ⟨rfl, b1⟩
  go_wp2_with fail
  have hB1 : Has ((w1.alloc (.cells #[.int .i64 2, .int .i64 3] 24)).alloc (.cells #[.int .i64 3, .int .i64 2] 24)) w1.heap.size #[.int .i64 2, .int .i64 3] 24 := (Has.new w1 w1.heap.size _ 24 rfl).alloc _
  have hB2 : Has ((w1.alloc (.cells #[.int .i64 2, .int .i64 3] 24)).alloc (.cells #[.int .i64 3, .int .i64 2] 24)) (w1.heap.size + 1) #[.int .i64 3, .int .i64 2] 24 := Has.new _ _ _ 24 (by simp)
  have B0 : Below w.heap.size w ((w1.alloc (.cells #[.int .i64 2, .int .i64 3] 24)).alloc (.cells #[.int .i64 3, .int .i64 2] 24)) := (b1.alloc b1.size _).alloc (by have := b1.size; simp; omega) _
  refine (HS1.out _).mono ?_
  generalize hwa : (w1.alloc (.cells #[.int .i64 2, .int .i64 3] 24)).alloc (.cells #[.int .i64 3, .int .i64 2] 24) = wa at *
  rintro e w2 ⟨rfl, b2⟩
  have HC : Hid (∀ W, Below wa.heap.size wa W → (W.cell? ⟨w1.heap.size, 0, none⟩ = some (.int .i64 2) ∧ W.cell? ⟨w1.heap.size, 1, none⟩ = some (.int .i64 3)) ∧ W.cell? ⟨w1.heap.size + 1, 0, none⟩ = some (.int .i64 3) ∧ W.cell? ⟨w1.heap.size + 1, 1, none⟩ = some (.int .i64 2)) := fun W hW =>
    ⟨⟨(hB1.below hW hB1.lt).cell 0, (hB1.below hW hB1.lt).cell 1⟩, (hB2.below hW hB2.lt).cell 0, (hB2.below hW hB2.lt).cell 1⟩
  have hXa := hB2.lt
  clear hwa hB1 hB2 b1 HS1
  generalize w1.heap.size = X at *
  have B2 := b2
  clear b2
  obtain ⟨⟨c0, c1⟩, c2, c3⟩ := HC.out w2 B2
  go_wp2_with fail
  refine (HS2.out _).mono ?_
  rintro e w3 ⟨rfl, b3⟩
  have B3 : Below wa.heap.size wa w3 := B2.trans (b3.mono B2.size)
  clear b3 c0 c1 c2 c3 HS2
  obtain ⟨⟨c0, c1⟩, c2, c3⟩ := HC.out w3 B3
  go_wp2_with fail
  refine (HS3.out _).mono ?_
  rintro e w4 ⟨rfl, b4⟩
  have B4 : Below wa.heap.size wa w4 := B3.trans (b4.mono B3.size)
  clear b4 c0 c1 c2 c3 HS3 B2
  obtain ⟨⟨c0, c1⟩, c2, c3⟩ := HC.out w4 B4
  go_wp2_with fail
  refine (HS4.out _).mono ?_
  rintro e w5 ⟨rfl, b5⟩
  have B5 : Below wa.heap.size wa w5 := B4.trans (b5.mono B4.size)
  clear b5 c0 c1 c2 c3 HS4 B3
  obtain ⟨⟨c0, c1⟩, c2, c3⟩ := HC.out w5 B5
  go_wp2_with fail
  refine (HE1.out _).mono ?_
  rintro e w6 ⟨r6, rfl, _, b6⟩
  have B6 : Below wa.heap.size wa w6 := B5.trans (b6.mono B5.size)
  clear b6 c0 c1 c2 c3 HE1 B4
  have hmk := hmkZ w6
  have hcv := hcvZ w6
  go_wp2_with fail
  refine (HE2.out _).mono ?_
  rintro e w7 ⟨T7, rfl, hT7, hT7s, b7⟩
  have B7 : Below wa.heap.size wa w7 := (B6.alloc B6.size _).trans (b7.mono (by have := B6.size; simp; omega))
  clear b7 HE2 hmk hcv hmkZ hcvZ B5
  obtain ⟨⟨c0, c1⟩, c2, c3⟩ := HC.out w7 B7
  go_wp2_with fail
  have hX7 : X + 1 < w7.heap.size := by have := B7.size; omega
  have hX7' : X < w7.heap.size := by omega
  have hmk := hmkY w7
  have hmk' := hmkY w7.drew
  have hcv := hcvY w7
  have hcv' := hcvY' w7
  clear hmkY hcvY hcvY'
  have HB8 : Hid (∀ W', Below (w7.alloc (.cells cy 5)).drew.heap.size (w7.alloc (.cells cy 5)).drew W' → Below wa.heap.size wa W' ∧ Below w7.heap.size w7 W' ∧ W'.cell? ⟨X, 0, none⟩ = some (.int .i64 2) ∧ W'.cell? ⟨X, 1, none⟩ = some (.int .i64 3)) := fun W' b8 => by
    have h1 : Below wa.heap.size wa W' := (B7.alloc B7.size _).drew.trans (b8.mono (by have := B7.size; simp; omega))
    exact ⟨h1, ((Below.refl _ _).alloc (Nat.le_refl _) _).drew.trans (b8.mono (by simp)), (HC.out W' h1).1.1, (HC.out W' h1).1.2⟩
  go_region_held (fun w' => w'.cell? ⟨X, 0, none⟩ = some (.int .i64 2) ∧ w'.cell? ⟨X, 1, none⟩ = some (.int .i64 3)) (go_keep) (first | (go_at_call 9; refine (HE3.out _).mono ?_; rintro e w8 ⟨r8, rfl, b8⟩; obtain ⟨B8, B78, c0', c1'⟩ := HB8.out w8 b8))
  clear b8 c0 c1 c2 c3 c0' c1' hmk hmk' hcv hcv' HE3 hX7 hX7' B6 HB8
  go_wp2_with fail
  refine (HE4.out _).mono ?_
  rintro e w9 ⟨T9, rfl, hT9, hT9s, b9⟩
  have B9 : Below wa.heap.size wa w9 := B8.trans (b9.mono B8.size)
  have B79 : Below w7.heap.size w7 w9 := B78.trans (b9.mono B78.size)
  have q7 : w9.cell? ⟨T7, 11, none⟩ = some (.string (ofBs (payL 12 lz 11))) := by
    rw [(hT7.below B79 hT7.lt).cell, strTo_get _ _ _ _ (by decide), if_pos (by decide)]
  have q9 : w9.cell? ⟨T9, 0, none⟩ = some (.string ⟨#[0]⟩) := by
    have e0 : payL 12 [] 0 = [0] := by decide +kernel
    rw [hT9.cell, strTo_get _ _ _ _ (by decide), if_pos (by decide), e0]; rfl
  have hp7 := HP2.out
  generalize ofBs (payL 12 lz 11) = s7 at *
  clear b9 hT7 hT9 hT7s hT9s HE4 HP2 B7 B78
  obtain ⟨⟨c0, c1⟩, c2, c3⟩ := HC.out w9 B9
  go_wp2_with fail
  refine (HE5.out _).mono ?_
  rintro e wt ⟨T, rfl, hT, hTs, bt⟩
  have BT : Below wa.heap.size wa wt := B9.trans (bt.mono B9.size)
  clear bt c0 c1 c2 c3 q7 q9 hp7 HE5 B79 B8
  go_wp2_with fail
  have hTl := hT.lt
  have e0 : payL 2 abc 0 = p0 := abc0
  have e1 : payL 2 abc 1 = p1 := abc1
  have HTw : ∀ w', Below wt.heap.size wt w' → w'.cell? ⟨T, 0, none⟩ = some (.string (ofBs p0)) ∧ w'.cell? ⟨T, 1, none⟩ = some (.string (ofBs p1)) ∧ w'.cell? ⟨T, 2, none⟩ = some (.string (ofBs p2)) := fun w' hC => by
    have h := hT.below hC hTl
    refine ⟨?_, ?_, ?_⟩
    · rw [h.cell, strTo_get _ _ _ _ (by decide), if_pos (by decide), e0]
    · rw [h.cell, strTo_get _ _ _ _ (by decide), if_pos (by decide), e1]
    · rw [h.cell, strTo_get _ _ _ _ (by decide), if_pos (by decide)]; rfl
  have HCw : ∀ w', Below wt.heap.size wt w' → (w'.cell? ⟨X, 0, none⟩ = some (.int .i64 2) ∧ w'.cell? ⟨X, 1, none⟩ = some (.int .i64 3)) ∧ w'.cell? ⟨X + 1, 0, none⟩ = some (.int .i64 3) ∧ w'.cell? ⟨X + 1, 1, none⟩ = some (.int .i64 2) := fun w' hC => HC.out w' (BT.trans (hC.mono BT.size))
  have HP01 : ∀ w', Below wt.heap.size wt w' → Strs w' (.slice (some ⟨T, 0, none⟩) 2 3) [p0, p1] := fun w' hC => by
    obtain ⟨k0, k1, _⟩ := HTw w' hC
    refine strs_at [p0, p1] rfl (by decide) (Nat.lt_of_lt_of_le hTl hC.size) (by decide) (fun j hj => ?_)
    match j, hj with
    | 0, _ => exact k0
    | 1, _ => exact k1
    | j + 2, h => exact absurd h (by simp)
  have HP2 : ∀ w', Below wt.heap.size wt w' → Strs w' (.slice (some ⟨T, 2, none⟩) 1 1) [p2] := fun w' hC => by
    obtain ⟨_, _, k2⟩ := HTw w' hC
    refine strs_at [p2] rfl (by decide) (Nat.lt_of_lt_of_le hTl hC.size) (by decide +kernel) (fun j hj => ?_)
    match j, hj with
    | 0, _ => exact k2
    | j + 1, h => exact absurd h (by simp)
  refine tabw (.pointer (some ⟨X, 0, none⟩)) (.pointer (some ⟨X + 1, 0, none⟩)) (.slice (some ⟨T, 0, none⟩) 3 3) rfl rfl rfl ?_
  intro act hact ha1 ha2 ha19
  refine wp_region_all_lit (by kernel_rfl) 147 (by kernel_rfl) (by rw [hact]; exact Nat.le_of_ble_eq_true (by kernel_rfl)) (Below wt.heap.size wt) (FT (tds T)) (FT.mono (tds T)) (Below.refl _ _).drew (AllFrom.app (AllFrom.app ⟨?_, ?_, ?_, ?_, ?_, ?_, ?_, ?_, ?_, ?_, ?_, ?_, ?_, ?_, ?_, ?_, ?_, ?_, ?_, ?_, ?_, ?_, ?_, ?_, ?_, ?_, ?_, ?_, ?_, ?_, ?_, ?_, ?_, ?_, ?_, ?_, ?_, ?_, ?_, trivial⟩ rfl ⟨?_, ?_, ?_, ?_, ?_, ?_, ?_, ?_, ?_, ?_, ?_, ?_, ?_, ?_, ?_, ?_, ?_, ?_, ?_, ?_, ?_, ?_, ?_, ?_, ?_, ?_, ?_, ?_, ?_, ?_, ?_, ?_, ?_, ?_, ?_, ?_, ?_, ?_, ?_, ?_, trivial⟩) rfl (AllFrom.app ⟨?_, ?_, ?_, ?_, ?_, ?_, ?_, ?_, ?_, ?_, ?_, ?_, ?_, ?_, ?_, ?_, ?_, ?_, ?_, ?_, ?_, ?_, ?_, ?_, ?_, ?_, ?_, ?_, ?_, ?_, ?_, ?_, ?_, ?_, ?_, ?_, ?_, ?_, ?_, ?_, trivial⟩ rfl ⟨?_, ?_, ?_, ?_, ?_, ?_, ?_, ?_, ?_, ?_, ?_, ?_, ?_, ?_, ?_, ?_, ?_, ?_, ?_, ?_, ?_, ?_, ?_, ?_, ?_, ?_, ?_, ?_, ?_, ?_, ?_, ?_, ?_, ?_, ?_, ?_, ?_, ?_, ?_, ?_, trivial⟩)) ?_
  · intro a' w' hC hA hF
    have h := HCw w' hC
    exact st_new _ _ rfl (rn_load24 rfl ((hA 2 (by decide)).trans ha2) h.2.1 h.2.2) hC (Below.refl _ _) rfl
  · intro a' w' hC hA hF
    exact st_new _ _ rfl (rn_bI2 rfl rfl rfl) (bel1 hC _) (bel1 (Below.refl _ _) _) (ints_lit [0, 1] (Has.new _ _ _ 3 rfl) (by decide) (by decide))
  · intro a' w' hC hA hF
    exact st_new _ _ rfl (rn_move rfl ((hA 19 (by decide)).trans ha19)) hC (Below.refl _ _) rfl
  · intro a' w' hC hA hF
    exact st_new _ _ rfl (rn_slH rfl (fun _ => rfl) (hF 2 (by decide))) hC (Below.refl _ _) (HP01 w' hC)
  · intro a' w' hC hA hF
    have r0 : a'.tmps.getD 147 undef = .agg #[.int .i64 3, .int .i64 2] := hF 0 (by decide)
    have r1 : Ints64 w' (a'.tmps.getD 148 undef) [0, 1] := hF 1 (by decide)
    obtain ⟨q1, k1, e1⟩ := ints_form r1
    rw [e1] at r1
    have r2 : Strs w' (a'.tmps.getD 150 undef) [p0, p1] := hF 3 (by decide)
    obtain ⟨q2, k2, e2⟩ := strs_form r2
    rw [e2] at r2
    exact st_new _ _ rfl (rn_b33 rfl r0 e1 e2 rfl) hC (Below.refl _ _) ⟨_, _, _, _, _, _, rfl, r1, r2⟩
  · intro a' w' hC hA hF
    have h := HCw w' hC
    exact st_new _ _ rfl (rn_load24 rfl ((hA 1 (by decide)).trans ha1) h.1.1 h.1.2) hC (Below.refl _ _) rfl
  · intro a' w' hC hA hF
    exact st_new _ _ rfl (rn_bI1 rfl rfl) (bel1 hC _) (bel1 (Below.refl _ _) _) (ints_lit [0] (Has.new _ _ _ 3 rfl) (by decide) (by decide))
  · intro a' w' hC hA hF
    exact st_new _ _ rfl (rn_move rfl ((hA 19 (by decide)).trans ha19)) hC (Below.refl _ _) rfl
  · intro a' w' hC hA hF
    exact st_new _ _ rfl (rn_slH rfl (fun _ => rfl) (hF 7 (by decide))) hC (Below.refl _ _) (HP01 w' hC)
  · intro a' w' hC hA hF
    have r0 : a'.tmps.getD 152 undef = .agg #[.int .i64 2, .int .i64 3] := hF 5 (by decide)
    have r1 : Ints64 w' (a'.tmps.getD 153 undef) [0] := hF 6 (by decide)
    obtain ⟨q1, k1, e1⟩ := ints_form r1
    rw [e1] at r1
    have r2 : Strs w' (a'.tmps.getD 155 undef) [p0, p1] := hF 8 (by decide)
    obtain ⟨q2, k2, e2⟩ := strs_form r2
    rw [e2] at r2
    exact st_new _ _ rfl (rn_b33 rfl r0 e1 e2 rfl) hC (Below.refl _ _) ⟨_, _, _, _, _, _, rfl, r1, r2⟩
  · intro a' w' hC hA hF
    have h := HCw w' hC
    exact st_new _ _ rfl (rn_load24 rfl ((hA 1 (by decide)).trans ha1) h.1.1 h.1.2) hC (Below.refl _ _) rfl
  · intro a' w' hC hA hF
    exact st_new _ _ rfl (rn_bI2 rfl rfl rfl) (bel1 hC _) (bel1 (Below.refl _ _) _) (ints_lit [0, 3] (Has.new _ _ _ 3 rfl) (by decide) (by decide))
  · intro a' w' hC hA hF
    exact st_new _ _ rfl (rn_move rfl ((hA 19 (by decide)).trans ha19)) hC (Below.refl _ _) rfl
  · intro a' w' hC hA hF
    exact st_new _ _ rfl (rn_slH rfl (fun _ => rfl) (hF 12 (by decide))) hC (Below.refl _ _) (HP01 w' hC)
  · intro a' w' hC hA hF
    have r0 : a'.tmps.getD 157 undef = .agg #[.int .i64 2, .int .i64 3] := hF 10 (by decide)
    have r1 : Ints64 w' (a'.tmps.getD 158 undef) [0, 3] := hF 11 (by decide)
    obtain ⟨q1, k1, e1⟩ := ints_form r1
    rw [e1] at r1
    have r2 : Strs w' (a'.tmps.getD 160 undef) [p0, p1] := hF 13 (by decide)
    obtain ⟨q2, k2, e2⟩ := strs_form r2
    rw [e2] at r2
    exact st_new _ _ rfl (rn_b33 rfl r0 e1 e2 rfl) hC (Below.refl _ _) ⟨_, _, _, _, _, _, rfl, r1, r2⟩
  · intro a' w' hC hA hF
    have h := HCw w' hC
    exact st_new _ _ rfl (rn_load24 rfl ((hA 1 (by decide)).trans ha1) h.1.1 h.1.2) hC (Below.refl _ _) rfl
  · intro a' w' hC hA hF
    exact st_new _ _ rfl (rn_bI2 rfl rfl rfl) (bel1 hC _) (bel1 (Below.refl _ _) _) (ints_lit [-1, 0] (Has.new _ _ _ 3 rfl) (by decide) (by decide))
  · intro a' w' hC hA hF
    exact st_new _ _ rfl (rn_move rfl ((hA 19 (by decide)).trans ha19)) hC (Below.refl _ _) rfl
  · intro a' w' hC hA hF
    exact st_new _ _ rfl (rn_slH rfl (fun _ => rfl) (hF 17 (by decide))) hC (Below.refl _ _) (HP01 w' hC)
  · intro a' w' hC hA hF
    have r0 : a'.tmps.getD 162 undef = .agg #[.int .i64 2, .int .i64 3] := hF 15 (by decide)
    have r1 : Ints64 w' (a'.tmps.getD 163 undef) [-1, 0] := hF 16 (by decide)
    obtain ⟨q1, k1, e1⟩ := ints_form r1
    rw [e1] at r1
    have r2 : Strs w' (a'.tmps.getD 165 undef) [p0, p1] := hF 18 (by decide)
    obtain ⟨q2, k2, e2⟩ := strs_form r2
    rw [e2] at r2
    exact st_new _ _ rfl (rn_b33 rfl r0 e1 e2 rfl) hC (Below.refl _ _) ⟨_, _, _, _, _, _, rfl, r1, r2⟩
  · intro a' w' hC hA hF
    have h := HCw w' hC
    exact st_new _ _ rfl (rn_load24 rfl ((hA 1 (by decide)).trans ha1) h.1.1 h.1.2) hC (Below.refl _ _) rfl
  · intro a' w' hC hA hF
    have r0 : a'.tmps.getD 167 undef = .agg #[.int .i64 2, .int .i64 3] := hF 20 (by decide)
    have r1 := ints_nil w'
    have r2 := Strs.nil w'
    exact st_new _ _ rfl (rn_b33 rfl r0 rfl rfl rfl) hC (Below.refl _ _) ⟨_, _, _, _, _, _, rfl, r1, r2⟩
  · intro a' w' hC hA hF
    have h := HCw w' hC
    exact st_new _ _ rfl (rn_load24 rfl ((hA 1 (by decide)).trans ha1) h.1.1 h.1.2) hC (Below.refl _ _) rfl
  · intro a' w' hC hA hF
    exact st_new _ _ rfl (rn_bI1 rfl rfl) (bel1 hC _) (bel1 (Below.refl _ _) _) (ints_lit [2] (Has.new _ _ _ 3 rfl) (by decide) (by decide))
  · intro a' w' hC hA hF
    exact st_new _ _ rfl (rn_move rfl ((hA 19 (by decide)).trans ha19)) hC (Below.refl _ _) rfl
  · intro a' w' hC hA hF
    exact st_new _ _ rfl (rn_slL rfl (fun _ => rfl) (hF 24 (by decide))) hC (Below.refl _ _) (HP2 w' hC)
  · intro a' w' hC hA hF
    have r0 : a'.tmps.getD 169 undef = .agg #[.int .i64 2, .int .i64 3] := hF 22 (by decide)
    have r1 : Ints64 w' (a'.tmps.getD 170 undef) [2] := hF 23 (by decide)
    obtain ⟨q1, k1, e1⟩ := ints_form r1
    rw [e1] at r1
    have r2 : Strs w' (a'.tmps.getD 172 undef) [p2] := hF 25 (by decide)
    obtain ⟨q2, k2, e2⟩ := strs_form r2
    rw [e2] at r2
    exact st_new _ _ rfl (rn_b33 rfl r0 e1 e2 rfl) hC (Below.refl _ _) ⟨_, _, _, _, _, _, rfl, r1, r2⟩
  · intro a' w' hC hA hF
    have h := HCw w' hC
    exact st_new _ _ rfl (rn_load24 rfl ((hA 1 (by decide)).trans ha1) h.1.1 h.1.2) hC (Below.refl _ _) rfl
  · intro a' w' hC hA hF
    exact st_new _ _ rfl (rn_bI2 rfl rfl rfl) (bel1 hC _) (bel1 (Below.refl _ _) _) (ints_lit [0, 1] (Has.new _ _ _ 3 rfl) (by decide) (by decide))
  · intro a' w' hC hA hF
    exact st_new _ _ rfl (rn_move rfl ((hA 19 (by decide)).trans ha19)) hC (Below.refl _ _) rfl
  · intro a' w' hC hA hF
    exact st_new _ _ rfl (rn_ix (i := 0) rfl (hF 29 (by decide)) rfl (by decide)) hC (Below.refl _ _) rfl
  · intro a' w' hC hA hF
    exact st_new _ _ rfl (rn_ld9 rfl (hF 30 (by decide)) (HTw w' hC).1) hC (Below.refl _ _) rfl
  · intro a' w' hC hA hF
    exact st_new _ _ rfl (rn_move rfl ((hA 19 (by decide)).trans ha19)) hC (Below.refl _ _) rfl
  · intro a' w' hC hA hF
    exact st_new _ _ rfl (rn_ix (i := 1) rfl (hF 32 (by decide)) rfl (by decide)) hC (Below.refl _ _) rfl
  · intro a' w' hC hA hF
    exact st_new _ _ rfl (rn_ld9 rfl (hF 33 (by decide)) (HTw w' hC).2.1) hC (Below.refl _ _) rfl
  · intro a' w' hC hA hF
    exact st_new _ _ rfl (rn_addS (b := [0]) rfl (hF 34 (by decide)) rfl (by decide)) hC (Below.refl _ _) rfl
  · intro a' w' hC hA hF
    exact st_new _ _ rfl (rn_bS2 rfl (hF 31 (by decide)) (hF 35 (by decide))) (bel1 hC _) (bel1 (Below.refl _ _) _) (strs_lit [p0, p1 ++ [0]] (Has.new _ _ _ 9 rfl) (by decide) (by decide +kernel))
  · intro a' w' hC hA hF
    have r0 : a'.tmps.getD 174 undef = .agg #[.int .i64 2, .int .i64 3] := hF 27 (by decide)
    have r1 : Ints64 w' (a'.tmps.getD 175 undef) [0, 1] := hF 28 (by decide)
    obtain ⟨q1, k1, e1⟩ := ints_form r1
    rw [e1] at r1
    have r2 : Strs w' (a'.tmps.getD 183 undef) [p0, p1 ++ [0]] := hF 36 (by decide)
    obtain ⟨q2, k2, e2⟩ := strs_form r2
    rw [e2] at r2
    exact st_new _ _ rfl (rn_b33 rfl r0 e1 e2 rfl) hC (Below.refl _ _) ⟨_, _, _, _, _, _, rfl, r1, r2⟩
  · intro a' w' hC hA hF
    have h := HCw w' hC
    exact st_new _ _ rfl (rn_load24 rfl ((hA 1 (by decide)).trans ha1) h.1.1 h.1.2) hC (Below.refl _ _) rfl
  · intro a' w' hC hA hF
    exact st_new _ _ rfl (rn_bI2 rfl rfl rfl) (bel1 hC _) (bel1 (Below.refl _ _) _) (ints_lit [0, 1] (Has.new _ _ _ 3 rfl) (by decide) (by decide))
  · intro a' w' hC hA hF
    exact st_new _ _ rfl (rn_bS2 rfl rfl rfl) (bel1 hC _) (bel1 (Below.refl _ _) _) (strs_lit [[], []] (Has.new _ _ _ 9 rfl) (by decide) (by decide +kernel))
  · intro a' w' hC hA hF
    have r0 : a'.tmps.getD 185 undef = .agg #[.int .i64 2, .int .i64 3] := hF 38 (by decide)
    have r1 : Ints64 w' (a'.tmps.getD 186 undef) [0, 1] := hF 39 (by decide)
    obtain ⟨q1, k1, e1⟩ := ints_form r1
    rw [e1] at r1
    have r2 : Strs w' (a'.tmps.getD 187 undef) [[], []] := hF 40 (by decide)
    obtain ⟨q2, k2, e2⟩ := strs_form r2
    rw [e2] at r2
    exact st_new _ _ rfl (rn_b33 rfl r0 e1 e2 rfl) hC (Below.refl _ _) ⟨_, _, _, _, _, _, rfl, r1, r2⟩
  · intro a' w' hC hA hF
    have h := HCw w' hC
    exact st_new _ _ rfl (rn_load24 rfl ((hA 1 (by decide)).trans ha1) h.1.1 h.1.2) hC (Below.refl _ _) rfl
  · intro a' w' hC hA hF
    exact st_new _ _ rfl (rn_bI2 rfl rfl rfl) (bel1 hC _) (bel1 (Below.refl _ _) _) (ints_lit [0, 1] (Has.new _ _ _ 3 rfl) (by decide) (by decide))
  · intro a' w' hC hA hF
    exact st_new _ _ rfl (rn_bS2 rfl rfl rfl) (bel1 hC _) (bel1 (Below.refl _ _) _) (strs_lit [[0, 0], [0, 0]] (Has.new _ _ _ 9 rfl) (by decide) (by decide +kernel))
  · intro a' w' hC hA hF
    have r0 : a'.tmps.getD 189 undef = .agg #[.int .i64 2, .int .i64 3] := hF 42 (by decide)
    have r1 : Ints64 w' (a'.tmps.getD 190 undef) [0, 1] := hF 43 (by decide)
    obtain ⟨q1, k1, e1⟩ := ints_form r1
    rw [e1] at r1
    have r2 : Strs w' (a'.tmps.getD 191 undef) [[0, 0], [0, 0]] := hF 44 (by decide)
    obtain ⟨q2, k2, e2⟩ := strs_form r2
    rw [e2] at r2
    exact st_new _ _ rfl (rn_b33 rfl r0 e1 e2 rfl) hC (Below.refl _ _) ⟨_, _, _, _, _, _, rfl, r1, r2⟩
  · intro a' w' hC hA hF
    have h := HCw w' hC
    exact st_new _ _ rfl (rn_load24 rfl ((hA 1 (by decide)).trans ha1) h.1.1 h.1.2) hC (Below.refl _ _) rfl
  · intro a' w' hC hA hF
    exact st_new _ _ rfl (rn_bI2 rfl rfl rfl) (bel1 hC _) (bel1 (Below.refl _ _) _) (ints_lit [0, 1] (Has.new _ _ _ 3 rfl) (by decide) (by decide))
  · intro a' w' hC hA hF
    exact st_new _ _ rfl (rn_move rfl ((hA 19 (by decide)).trans ha19)) hC (Below.refl _ _) rfl
  · intro a' w' hC hA hF
    exact st_new _ _ rfl (rn_ix (i := 0) rfl (hF 48 (by decide)) rfl (by decide)) hC (Below.refl _ _) rfl
  · intro a' w' hC hA hF
    exact st_new _ _ rfl (rn_ld9 rfl (hF 49 (by decide)) (HTw w' hC).1) hC (Below.refl _ _) rfl
  · intro a' w' hC hA hF
    exact st_new _ _ rfl (rn_bS2 rfl (hF 50 (by decide)) rfl) (bel1 hC _) (bel1 (Below.refl _ _) _) (strs_lit [p0, [0, 3, 97, 98, 99, 100]] (Has.new _ _ _ 9 rfl) (by decide) (by decide +kernel))
  · intro a' w' hC hA hF
    have r0 : a'.tmps.getD 193 undef = .agg #[.int .i64 2, .int .i64 3] := hF 46 (by decide)
    have r1 : Ints64 w' (a'.tmps.getD 194 undef) [0, 1] := hF 47 (by decide)
    obtain ⟨q1, k1, e1⟩ := ints_form r1
    rw [e1] at r1
    have r2 : Strs w' (a'.tmps.getD 198 undef) [p0, [0, 3, 97, 98, 99, 100]] := hF 51 (by decide)
    obtain ⟨q2, k2, e2⟩ := strs_form r2
    rw [e2] at r2
    exact st_new _ _ rfl (rn_b33 rfl r0 e1 e2 rfl) hC (Below.refl _ _) ⟨_, _, _, _, _, _, rfl, r1, r2⟩
  · intro a' w' hC hA hF
    have h := HCw w' hC
    exact st_new _ _ rfl (rn_load24 rfl ((hA 1 (by decide)).trans ha1) h.1.1 h.1.2) hC (Below.refl _ _) rfl
  · intro a' w' hC hA hF
    exact st_new _ _ rfl (rn_bI2 rfl rfl rfl) (bel1 hC _) (bel1 (Below.refl _ _) _) (ints_lit [0, 1] (Has.new _ _ _ 3 rfl) (by decide) (by decide))
  · intro a' w' hC hA hF
    exact st_new _ _ rfl (rn_move rfl ((hA 19 (by decide)).trans ha19)) hC (Below.refl _ _) rfl
  · intro a' w' hC hA hF
    exact st_new _ _ rfl (rn_ix (i := 0) rfl (hF 55 (by decide)) rfl (by decide)) hC (Below.refl _ _) rfl
  · intro a' w' hC hA hF
    exact st_new _ _ rfl (rn_ld9 rfl (hF 56 (by decide)) (HTw w' hC).1) hC (Below.refl _ _) rfl
  · intro a' w' hC hA hF
    exact st_new _ _ rfl (rn_bS2 rfl (hF 57 (by decide)) rfl) (bel1 hC _) (bel1 (Below.refl _ _) _) (strs_lit [p0, [0, 2, 97, 98, 99, 0]] (Has.new _ _ _ 9 rfl) (by decide) (by decide +kernel))
  · intro a' w' hC hA hF
    have r0 : a'.tmps.getD 200 undef = .agg #[.int .i64 2, .int .i64 3] := hF 53 (by decide)
    have r1 : Ints64 w' (a'.tmps.getD 201 undef) [0, 1] := hF 54 (by decide)
    obtain ⟨q1, k1, e1⟩ := ints_form r1
    rw [e1] at r1
    have r2 : Strs w' (a'.tmps.getD 205 undef) [p0, [0, 2, 97, 98, 99, 0]] := hF 58 (by decide)
    obtain ⟨q2, k2, e2⟩ := strs_form r2
    rw [e2] at r2
    exact st_new _ _ rfl (rn_b33 rfl r0 e1 e2 rfl) hC (Below.refl _ _) ⟨_, _, _, _, _, _, rfl, r1, r2⟩
  · intro a' w' hC hA hF
    have h := HCw w' hC
    exact st_new _ _ rfl (rn_load24 rfl ((hA 1 (by decide)).trans ha1) h.1.1 h.1.2) hC (Below.refl _ _) rfl
  · intro a' w' hC hA hF
    exact st_new _ _ rfl (rn_bI2 rfl rfl rfl) (bel1 hC _) (bel1 (Below.refl _ _) _) (ints_lit [0, 1] (Has.new _ _ _ 3 rfl) (by decide) (by decide))
  · intro a' w' hC hA hF
    exact st_new _ _ rfl (rn_move rfl ((hA 19 (by decide)).trans ha19)) hC (Below.refl _ _) rfl
  · intro a' w' hC hA hF
    exact st_new _ _ rfl (rn_ix (i := 0) rfl (hF 62 (by decide)) rfl (by decide)) hC (Below.refl _ _) rfl
  · intro a' w' hC hA hF
    exact st_new _ _ rfl (rn_ld9 rfl (hF 63 (by decide)) (HTw w' hC).1) hC (Below.refl _ _) rfl
  · intro a' w' hC hA hF
    exact st_new _ _ rfl (rn_bS2 rfl (hF 64 (by decide)) rfl) (bel1 hC _) (bel1 (Below.refl _ _) _) (strs_lit [p0, [0, 5, 97, 98, 99, 0]] (Has.new _ _ _ 9 rfl) (by decide) (by decide +kernel))
  · intro a' w' hC hA hF
    have r0 : a'.tmps.getD 207 undef = .agg #[.int .i64 2, .int .i64 3] := hF 60 (by decide)
    have r1 : Ints64 w' (a'.tmps.getD 208 undef) [0, 1] := hF 61 (by decide)
    obtain ⟨q1, k1, e1⟩ := ints_form r1
    rw [e1] at r1
    have r2 : Strs w' (a'.tmps.getD 212 undef) [p0, [0, 5, 97, 98, 99, 0]] := hF 65 (by decide)
    obtain ⟨q2, k2, e2⟩ := strs_form r2
    rw [e2] at r2
    exact st_new _ _ rfl (rn_b33 rfl r0 e1 e2 rfl) hC (Below.refl _ _) ⟨_, _, _, _, _, _, rfl, r1, r2⟩
  · intro a' w' hC hA hF
    have h := HCw w' hC
    exact st_new _ _ rfl (rn_load24 rfl ((hA 1 (by decide)).trans ha1) h.1.1 h.1.2) hC (Below.refl _ _) rfl
  · intro a' w' hC hA hF
    exact st_new _ _ rfl (rn_bI2 rfl rfl rfl) (bel1 hC _) (bel1 (Below.refl _ _) _) (ints_lit [0, 1] (Has.new _ _ _ 3 rfl) (by decide) (by decide))
  · intro a' w' hC hA hF
    exact st_new _ _ rfl (rn_move rfl ((hA 19 (by decide)).trans ha19)) hC (Below.refl _ _) rfl
  · intro a' w' hC hA hF
    exact st_new _ _ rfl (rn_ix (i := 1) rfl (hF 69 (by decide)) rfl (by decide)) hC (Below.refl _ _) rfl
  · intro a' w' hC hA hF
    exact st_new _ _ rfl (rn_ld9 rfl (hF 70 (by decide)) (HTw w' hC).2.1) hC (Below.refl _ _) rfl
  · intro a' w' hC hA hF
    exact st_new _ _ rfl (rn_bS2 rfl rfl (hF 71 (by decide))) (bel1 hC _) (bel1 (Below.refl _ _) _) (strs_lit [[0, 0, 0, 0, 0, 1], p1] (Has.new _ _ _ 9 rfl) (by decide) (by decide +kernel))
  · intro a' w' hC hA hF
    have r0 : a'.tmps.getD 214 undef = .agg #[.int .i64 2, .int .i64 3] := hF 67 (by decide)
    have r1 : Ints64 w' (a'.tmps.getD 215 undef) [0, 1] := hF 68 (by decide)
    obtain ⟨q1, k1, e1⟩ := ints_form r1
    rw [e1] at r1
    have r2 : Strs w' (a'.tmps.getD 219 undef) [[0, 0, 0, 0, 0, 1], p1] := hF 72 (by decide)
    obtain ⟨q2, k2, e2⟩ := strs_form r2
    rw [e2] at r2
    exact st_new _ _ rfl (rn_b33 rfl r0 e1 e2 rfl) hC (Below.refl _ _) ⟨_, _, _, _, _, _, rfl, r1, r2⟩
  · intro a' w' hC hA hF
    have h := HCw w' hC
    exact st_new _ _ rfl (rn_load24 rfl ((hA 1 (by decide)).trans ha1) h.1.1 h.1.2) hC (Below.refl _ _) rfl
  · intro a' w' hC hA hF
    exact st_new _ _ rfl (rn_bI2 rfl rfl rfl) (bel1 hC _) (bel1 (Below.refl _ _) _) (ints_lit [0, 1] (Has.new _ _ _ 3 rfl) (by decide) (by decide))
  · intro a' w' hC hA hF
    exact st_new _ _ rfl (rn_move rfl ((hA 19 (by decide)).trans ha19)) hC (Below.refl _ _) rfl
  · intro a' w' hC hA hF
    exact st_new _ _ rfl (rn_ix (i := 1) rfl (hF 76 (by decide)) rfl (by decide)) hC (Below.refl _ _) rfl
  · intro a' w' hC hA hF
    exact st_new _ _ rfl (rn_ld9 rfl (hF 77 (by decide)) (HTw w' hC).2.1) hC (Below.refl _ _) rfl
  · intro a' w' hC hA hF
    exact st_new _ _ rfl (rn_bS2 rfl rfl (hF 78 (by decide))) (bel1 hC _) (bel1 (Below.refl _ _) _) (strs_lit [[128, 0, 0, 0, 0, 0], p1] (Has.new _ _ _ 9 rfl) (by decide) (by decide +kernel))
  · intro a' w' hC hA hF
    have r0 : a'.tmps.getD 221 undef = .agg #[.int .i64 2, .int .i64 3] := hF 74 (by decide)
    have r1 : Ints64 w' (a'.tmps.getD 222 undef) [0, 1] := hF 75 (by decide)
    obtain ⟨q1, k1, e1⟩ := ints_form r1
    rw [e1] at r1
    have r2 : Strs w' (a'.tmps.getD 226 undef) [[128, 0, 0, 0, 0, 0], p1] := hF 79 (by decide)
    obtain ⟨q2, k2, e2⟩ := strs_form r2
    rw [e2] at r2
    exact st_new _ _ rfl (rn_b33 rfl r0 e1 e2 rfl) hC (Below.refl _ _) ⟨_, _, _, _, _, _, rfl, r1, r2⟩
  · intro a' w' hC hA hF
    have h := HCw w' hC
    exact st_new _ _ rfl (rn_load24 rfl ((hA 1 (by decide)).trans ha1) h.1.1 h.1.2) hC (Below.refl _ _) rfl
  · intro a' w' hC hA hF
    exact st_new _ _ rfl (rn_bI2 rfl rfl rfl) (bel1 hC _) (bel1 (Below.refl _ _) _) (ints_lit [0, 1] (Has.new _ _ _ 3 rfl) (by decide) (by decide))
  · intro a' w' hC hA hF
    exact st_new _ _ rfl (rn_move rfl ((hA 19 (by decide)).trans ha19)) hC (Below.refl _ _) rfl
  · intro a' w' hC hA hF
    exact st_new _ _ rfl (rn_ix (i := 0) rfl (hF 83 (by decide)) rfl (by decide)) hC (Below.refl _ _) rfl
  · intro a' w' hC hA hF
    exact st_new _ _ rfl (rn_ld9 rfl (hF 84 (by decide)) (HTw w' hC).1) hC (Below.refl _ _) rfl
  · intro a' w' hC hA hF
    exact st_new _ _ rfl (rn_addS (b := [0]) rfl (hF 85 (by decide)) rfl (by decide)) hC (Below.refl _ _) rfl
  · intro a' w' hC hA hF
    exact st_new _ _ rfl (rn_move rfl ((hA 19 (by decide)).trans ha19)) hC (Below.refl _ _) rfl
  · intro a' w' hC hA hF
    exact st_new _ _ rfl (rn_ix (i := 1) rfl (hF 87 (by decide)) rfl (by decide)) hC (Below.refl _ _) rfl
  · intro a' w' hC hA hF
    exact st_new _ _ rfl (rn_ld9 rfl (hF 88 (by decide)) (HTw w' hC).2.1) hC (Below.refl _ _) rfl
  · intro a' w' hC hA hF
    exact st_new _ _ rfl (rn_addS (b := [0]) rfl (hF 89 (by decide)) rfl (by decide)) hC (Below.refl _ _) rfl
  · intro a' w' hC hA hF
    exact st_new _ _ rfl (rn_bS2 rfl (hF 86 (by decide)) (hF 90 (by decide))) (bel1 hC _) (bel1 (Below.refl _ _) _) (strs_lit [p0 ++ [0], p1 ++ [0]] (Has.new _ _ _ 9 rfl) (by decide) (by decide +kernel))
  · intro a' w' hC hA hF
    have r0 : a'.tmps.getD 228 undef = .agg #[.int .i64 2, .int .i64 3] := hF 81 (by decide)
    have r1 : Ints64 w' (a'.tmps.getD 229 undef) [0, 1] := hF 82 (by decide)
    obtain ⟨q1, k1, e1⟩ := ints_form r1
    rw [e1] at r1
    have r2 : Strs w' (a'.tmps.getD 238 undef) [p0 ++ [0], p1 ++ [0]] := hF 91 (by decide)
    obtain ⟨q2, k2, e2⟩ := strs_form r2
    rw [e2] at r2
    exact st_new _ _ rfl (rn_b33 rfl r0 e1 e2 rfl) hC (Below.refl _ _) ⟨_, _, _, _, _, _, rfl, r1, r2⟩
  · intro a' w' hC hA hF
    have h := HCw w' hC
    exact st_new _ _ rfl (rn_load24 rfl ((hA 1 (by decide)).trans ha1) h.1.1 h.1.2) hC (Below.refl _ _) rfl
  · intro a' w' hC hA hF
    exact st_new _ _ rfl (rn_bI2 rfl rfl rfl) (bel1 hC _) (bel1 (Below.refl _ _) _) (ints_lit [0, 1] (Has.new _ _ _ 3 rfl) (by decide) (by decide))
  · intro a' w' hC hA hF
    exact st_new _ _ rfl (rn_bS2 rfl rfl rfl) (bel1 hC _) (bel1 (Below.refl _ _) _) (strs_lit [[0, 0, 0, 0, 0, 0, 0], [3, 97, 98, 99, 0, 0, 0]] (Has.new _ _ _ 9 rfl) (by decide) (by decide +kernel))
  · intro a' w' hC hA hF
    have r0 : a'.tmps.getD 240 undef = .agg #[.int .i64 2, .int .i64 3] := hF 93 (by decide)
    have r1 : Ints64 w' (a'.tmps.getD 241 undef) [0, 1] := hF 94 (by decide)
    obtain ⟨q1, k1, e1⟩ := ints_form r1
    rw [e1] at r1
    have r2 : Strs w' (a'.tmps.getD 242 undef) [[0, 0, 0, 0, 0, 0, 0], [3, 97, 98, 99, 0, 0, 0]] := hF 95 (by decide)
    obtain ⟨q2, k2, e2⟩ := strs_form r2
    rw [e2] at r2
    exact st_new _ _ rfl (rn_b33 rfl r0 e1 e2 rfl) hC (Below.refl _ _) ⟨_, _, _, _, _, _, rfl, r1, r2⟩
  · intro a' w' hC hA hF
    have h := HCw w' hC
    exact st_new _ _ rfl (rn_load24 rfl ((hA 1 (by decide)).trans ha1) h.1.1 h.1.2) hC (Below.refl _ _) rfl
  · intro a' w' hC hA hF
    exact st_new _ _ rfl (rn_bI2 rfl rfl rfl) (bel1 hC _) (bel1 (Below.refl _ _) _) (ints_lit [1, 0] (Has.new _ _ _ 3 rfl) (by decide) (by decide))
  · intro a' w' hC hA hF
    exact st_new _ _ rfl (rn_move rfl ((hA 19 (by decide)).trans ha19)) hC (Below.refl _ _) rfl
  · intro a' w' hC hA hF
    exact st_new _ _ rfl (rn_ix (i := 1) rfl (hF 99 (by decide)) rfl (by decide)) hC (Below.refl _ _) rfl
  · intro a' w' hC hA hF
    exact st_new _ _ rfl (rn_ld9 rfl (hF 100 (by decide)) (HTw w' hC).2.1) hC (Below.refl _ _) rfl
  · intro a' w' hC hA hF
    exact st_new _ _ rfl (rn_move rfl ((hA 19 (by decide)).trans ha19)) hC (Below.refl _ _) rfl
  · intro a' w' hC hA hF
    exact st_new _ _ rfl (rn_ix (i := 0) rfl (hF 102 (by decide)) rfl (by decide)) hC (Below.refl _ _) rfl
  · intro a' w' hC hA hF
    exact st_new _ _ rfl (rn_ld9 rfl (hF 103 (by decide)) (HTw w' hC).1) hC (Below.refl _ _) rfl
  · intro a' w' hC hA hF
    exact st_new _ _ rfl (rn_bS2 rfl (hF 101 (by decide)) (hF 104 (by decide))) (bel1 hC _) (bel1 (Below.refl _ _) _) (strs_lit [p1, p0] (Has.new _ _ _ 9 rfl) (by decide) (by decide +kernel))
  · intro a' w' hC hA hF
    have r0 : a'.tmps.getD 244 undef = .agg #[.int .i64 2, .int .i64 3] := hF 97 (by decide)
    have r1 : Ints64 w' (a'.tmps.getD 245 undef) [1, 0] := hF 98 (by decide)
    obtain ⟨q1, k1, e1⟩ := ints_form r1
    rw [e1] at r1
    have r2 : Strs w' (a'.tmps.getD 252 undef) [p1, p0] := hF 105 (by decide)
    obtain ⟨q2, k2, e2⟩ := strs_form r2
    rw [e2] at r2
    exact st_new _ _ rfl (rn_b33 rfl r0 e1 e2 rfl) hC (Below.refl _ _) ⟨_, _, _, _, _, _, rfl, r1, r2⟩
  · intro a' w' hC hA hF
    have h := HCw w' hC
    exact st_new _ _ rfl (rn_load24 rfl ((hA 1 (by decide)).trans ha1) h.1.1 h.1.2) hC (Below.refl _ _) rfl
  · intro a' w' hC hA hF
    exact st_new _ _ rfl (rn_bI2 rfl rfl rfl) (bel1 hC _) (bel1 (Below.refl _ _) _) (ints_lit [2, 0] (Has.new _ _ _ 3 rfl) (by decide) (by decide))
  · intro a' w' hC hA hF
    exact st_new _ _ rfl (rn_move rfl ((hA 19 (by decide)).trans ha19)) hC (Below.refl _ _) rfl
  · intro a' w' hC hA hF
    exact st_new _ _ rfl (rn_ix (i := 2) rfl (hF 109 (by decide)) rfl (by decide)) hC (Below.refl _ _) rfl
  · intro a' w' hC hA hF
    exact st_new _ _ rfl (rn_ld9 rfl (hF 110 (by decide)) (HTw w' hC).2.2) hC (Below.refl _ _) rfl
  · intro a' w' hC hA hF
    exact st_new _ _ rfl (rn_move rfl ((hA 19 (by decide)).trans ha19)) hC (Below.refl _ _) rfl
  · intro a' w' hC hA hF
    exact st_new _ _ rfl (rn_ix (i := 0) rfl (hF 112 (by decide)) rfl (by decide)) hC (Below.refl _ _) rfl
  · intro a' w' hC hA hF
    exact st_new _ _ rfl (rn_ld9 rfl (hF 113 (by decide)) (HTw w' hC).1) hC (Below.refl _ _) rfl
  · intro a' w' hC hA hF
    exact st_new _ _ rfl (rn_bS2 rfl (hF 111 (by decide)) (hF 114 (by decide))) (bel1 hC _) (bel1 (Below.refl _ _) _) (strs_lit [p2, p0] (Has.new _ _ _ 9 rfl) (by decide) (by decide +kernel))
  · intro a' w' hC hA hF
    have r0 : a'.tmps.getD 254 undef = .agg #[.int .i64 2, .int .i64 3] := hF 107 (by decide)
    have r1 : Ints64 w' (a'.tmps.getD 255 undef) [2, 0] := hF 108 (by decide)
    obtain ⟨q1, k1, e1⟩ := ints_form r1
    rw [e1] at r1
    have r2 : Strs w' (a'.tmps.getD 262 undef) [p2, p0] := hF 115 (by decide)
    obtain ⟨q2, k2, e2⟩ := strs_form r2
    rw [e2] at r2
    exact st_new _ _ rfl (rn_b33 rfl r0 e1 e2 rfl) hC (Below.refl _ _) ⟨_, _, _, _, _, _, rfl, r1, r2⟩
  · intro a' w' hC hA hF
    have h := HCw w' hC
    exact st_new _ _ rfl (rn_load24 rfl ((hA 1 (by decide)).trans ha1) h.1.1 h.1.2) hC (Below.refl _ _) rfl
  · intro a' w' hC hA hF
    exact st_new _ _ rfl (rn_bI3 rfl rfl rfl rfl) (bel1 hC _) (bel1 (Below.refl _ _) _) (ints_lit [2, 1, 0] (Has.new _ _ _ 3 rfl) (by decide) (by decide))
  · intro a' w' hC hA hF
    exact st_new _ _ rfl (rn_move rfl ((hA 19 (by decide)).trans ha19)) hC (Below.refl _ _) rfl
  · intro a' w' hC hA hF
    exact st_new _ _ rfl (rn_ix (i := 2) rfl (hF 119 (by decide)) rfl (by decide)) hC (Below.refl _ _) rfl
  · intro a' w' hC hA hF
    exact st_new _ _ rfl (rn_ld9 rfl (hF 120 (by decide)) (HTw w' hC).2.2) hC (Below.refl _ _) rfl
  · intro a' w' hC hA hF
    exact st_new _ _ rfl (rn_move rfl ((hA 19 (by decide)).trans ha19)) hC (Below.refl _ _) rfl
  · intro a' w' hC hA hF
    exact st_new _ _ rfl (rn_ix (i := 1) rfl (hF 122 (by decide)) rfl (by decide)) hC (Below.refl _ _) rfl
  · intro a' w' hC hA hF
    exact st_new _ _ rfl (rn_ld9 rfl (hF 123 (by decide)) (HTw w' hC).2.1) hC (Below.refl _ _) rfl
  · intro a' w' hC hA hF
    exact st_new _ _ rfl (rn_move rfl ((hA 19 (by decide)).trans ha19)) hC (Below.refl _ _) rfl
  · intro a' w' hC hA hF
    exact st_new _ _ rfl (rn_ix (i := 0) rfl (hF 125 (by decide)) rfl (by decide)) hC (Below.refl _ _) rfl
  · intro a' w' hC hA hF
    exact st_new _ _ rfl (rn_ld9 rfl (hF 126 (by decide)) (HTw w' hC).1) hC (Below.refl _ _) rfl
  · intro a' w' hC hA hF
    exact st_new _ _ rfl (rn_bS3 rfl (hF 121 (by decide)) (hF 124 (by decide)) (hF 127 (by decide))) (bel1 hC _) (bel1 (Below.refl _ _) _) (strs_lit [p2, p1, p0] (Has.new _ _ _ 9 rfl) (by decide) (by decide +kernel))
  · intro a' w' hC hA hF
    have r0 : a'.tmps.getD 264 undef = .agg #[.int .i64 2, .int .i64 3] := hF 117 (by decide)
    have r1 : Ints64 w' (a'.tmps.getD 265 undef) [2, 1, 0] := hF 118 (by decide)
    obtain ⟨q1, k1, e1⟩ := ints_form r1
    rw [e1] at r1
    have r2 : Strs w' (a'.tmps.getD 275 undef) [p2, p1, p0] := hF 128 (by decide)
    obtain ⟨q2, k2, e2⟩ := strs_form r2
    rw [e2] at r2
    exact st_new _ _ rfl (rn_b33 rfl r0 e1 e2 rfl) hC (Below.refl _ _) ⟨_, _, _, _, _, _, rfl, r1, r2⟩
  · intro a' w' hC hA hF
    have h := HCw w' hC
    exact st_new _ _ rfl (rn_load24 rfl ((hA 1 (by decide)).trans ha1) h.1.1 h.1.2) hC (Below.refl _ _) rfl
  · intro a' w' hC hA hF
    exact st_new _ _ rfl (rn_bI3 rfl rfl rfl rfl) (bel1 hC _) (bel1 (Below.refl _ _) _) (ints_lit [2, 1, 0] (Has.new _ _ _ 3 rfl) (by decide) (by decide))
  · intro a' w' hC hA hF
    exact st_new _ _ rfl (rn_move rfl ((hA 19 (by decide)).trans ha19)) hC (Below.refl _ _) rfl
  · intro a' w' hC hA hF
    exact st_new _ _ rfl (rn_ix (i := 2) rfl (hF 132 (by decide)) rfl (by decide)) hC (Below.refl _ _) rfl
  · intro a' w' hC hA hF
    exact st_new _ _ rfl (rn_ld9 rfl (hF 133 (by decide)) (HTw w' hC).2.2) hC (Below.refl _ _) rfl
  · intro a' w' hC hA hF
    exact st_new _ _ rfl (rn_move rfl ((hA 19 (by decide)).trans ha19)) hC (Below.refl _ _) rfl
  · intro a' w' hC hA hF
    exact st_new _ _ rfl (rn_ix (i := 1) rfl (hF 135 (by decide)) rfl (by decide)) hC (Below.refl _ _) rfl
  · intro a' w' hC hA hF
    exact st_new _ _ rfl (rn_ld9 rfl (hF 136 (by decide)) (HTw w' hC).2.1) hC (Below.refl _ _) rfl
  · intro a' w' hC hA hF
    exact st_new _ _ rfl (rn_move rfl ((hA 19 (by decide)).trans ha19)) hC (Below.refl _ _) rfl
  · intro a' w' hC hA hF
    exact st_new _ _ rfl (rn_ix (i := 1) rfl (hF 138 (by decide)) rfl (by decide)) hC (Below.refl _ _) rfl
  · intro a' w' hC hA hF
    exact st_new _ _ rfl (rn_ld9 rfl (hF 139 (by decide)) (HTw w' hC).2.1) hC (Below.refl _ _) rfl
  · intro a' w' hC hA hF
    exact st_new _ _ rfl (rn_bS3 rfl (hF 134 (by decide)) (hF 137 (by decide)) (hF 140 (by decide))) (bel1 hC _) (bel1 (Below.refl _ _) _) (strs_lit [p2, p1, p1] (Has.new _ _ _ 9 rfl) (by decide) (by decide +kernel))
  · intro a' w' hC hA hF
    have r0 : a'.tmps.getD 277 undef = .agg #[.int .i64 2, .int .i64 3] := hF 130 (by decide)
    have r1 : Ints64 w' (a'.tmps.getD 278 undef) [2, 1, 0] := hF 131 (by decide)
    obtain ⟨q1, k1, e1⟩ := ints_form r1
    rw [e1] at r1
    have r2 : Strs w' (a'.tmps.getD 288 undef) [p2, p1, p1] := hF 141 (by decide)
    obtain ⟨q2, k2, e2⟩ := strs_form r2
    rw [e2] at r2
    exact st_new _ _ rfl (rn_b33 rfl r0 e1 e2 rfl) hC (Below.refl _ _) ⟨_, _, _, _, _, _, rfl, r1, r2⟩
  · intro a' w' hC hA hF
    have h := HCw w' hC
    exact st_new _ _ rfl (rn_load24 rfl ((hA 1 (by decide)).trans ha1) h.1.1 h.1.2) hC (Below.refl _ _) rfl
  · intro a' w' hC hA hF
    exact st_new _ _ rfl (rn_bI3 rfl rfl rfl rfl) (bel1 hC _) (bel1 (Below.refl _ _) _) (ints_lit [0, 1, 2] (Has.new _ _ _ 3 rfl) (by decide) (by decide))
  · intro a' w' hC hA hF
    exact st_new _ _ rfl (rn_move rfl ((hA 19 (by decide)).trans ha19)) hC (Below.refl _ _) rfl
  · intro a' w' hC hA hF
    exact st_new _ _ rfl (rn_ix (i := 0) rfl (hF 145 (by decide)) rfl (by decide)) hC (Below.refl _ _) rfl
  · intro a' w' hC hA hF
    exact st_new _ _ rfl (rn_ld9 rfl (hF 146 (by decide)) (HTw w' hC).1) hC (Below.refl _ _) rfl
  · intro a' w' hC hA hF
    exact st_new _ _ rfl (rn_move rfl ((hA 19 (by decide)).trans ha19)) hC (Below.refl _ _) rfl
  · intro a' w' hC hA hF
    exact st_new _ _ rfl (rn_ix (i := 1) rfl (hF 148 (by decide)) rfl (by decide)) hC (Below.refl _ _) rfl
  · intro a' w' hC hA hF
    exact st_new _ _ rfl (rn_ld9 rfl (hF 149 (by decide)) (HTw w' hC).2.1) hC (Below.refl _ _) rfl
  · intro a' w' hC hA hF
    exact st_new _ _ rfl (rn_move rfl ((hA 19 (by decide)).trans ha19)) hC (Below.refl _ _) rfl
  · intro a' w' hC hA hF
    exact st_new _ _ rfl (rn_ix (i := 1) rfl (hF 151 (by decide)) rfl (by decide)) hC (Below.refl _ _) rfl
  · intro a' w' hC hA hF
    exact st_new _ _ rfl (rn_ld9 rfl (hF 152 (by decide)) (HTw w' hC).2.1) hC (Below.refl _ _) rfl
  · intro a' w' hC hA hF
    exact st_new _ _ rfl (rn_bS3 rfl (hF 147 (by decide)) (hF 150 (by decide)) (hF 153 (by decide))) (bel1 hC _) (bel1 (Below.refl _ _) _) (strs_lit [p0, p1, p1] (Has.new _ _ _ 9 rfl) (by decide) (by decide +kernel))
  · intro a' w' hC hA hF
    have r0 : a'.tmps.getD 290 undef = .agg #[.int .i64 2, .int .i64 3] := hF 143 (by decide)
    have r1 : Ints64 w' (a'.tmps.getD 291 undef) [0, 1, 2] := hF 144 (by decide)
    obtain ⟨q1, k1, e1⟩ := ints_form r1
    rw [e1] at r1
    have r2 : Strs w' (a'.tmps.getD 301 undef) [p0, p1, p1] := hF 154 (by decide)
    obtain ⟨q2, k2, e2⟩ := strs_form r2
    rw [e2] at r2
    exact st_new _ _ rfl (rn_b33 rfl r0 e1 e2 rfl) hC (Below.refl _ _) ⟨_, _, _, _, _, _, rfl, r1, r2⟩
  · intro a' w' hC hA hF
    obtain ⟨a0, n0, c0, b0, m0, d0, e0, i0, s0⟩ : (Dsc.cas ⟨3, 2, [0, 1], [p0, p1], 1⟩).F (a'.tmps.getD 151 undef) w' := hF 4 (by decide)
    obtain ⟨a1, n1, c1, b1, m1, d1, e1, i1, s1⟩ : (Dsc.cas ⟨2, 3, [0], [p0, p1], 1⟩).F (a'.tmps.getD 156 undef) w' := hF 9 (by decide)
    obtain ⟨a2, n2, c2, b2, m2, d2, e2, i2, s2⟩ : (Dsc.cas ⟨2, 3, [0, 3], [p0, p1], 1⟩).F (a'.tmps.getD 161 undef) w' := hF 14 (by decide)
    obtain ⟨a3, n3, c3, b3, m3, d3, e3, i3, s3⟩ : (Dsc.cas ⟨2, 3, [-1, 0], [p0, p1], 1⟩).F (a'.tmps.getD 166 undef) w' := hF 19 (by decide)
    obtain ⟨a4, n4, c4, b4, m4, d4, e4, i4, s4⟩ : (Dsc.cas ⟨2, 3, [], [], 54⟩).F (a'.tmps.getD 168 undef) w' := hF 21 (by decide)
    obtain ⟨a5, n5, c5, b5, m5, d5, e5, i5, s5⟩ : (Dsc.cas ⟨2, 3, [2], [p2], 54⟩).F (a'.tmps.getD 173 undef) w' := hF 26 (by decide)
    obtain ⟨a6, n6, c6, b6, m6, d6, e6, i6, s6⟩ : (Dsc.cas ⟨2, 3, [0, 1], [p0, p1 ++ [0]], 4⟩).F (a'.tmps.getD 184 undef) w' := hF 37 (by decide)
    obtain ⟨a7, n7, c7, b7, m7, d7, e7, i7, s7⟩ : (Dsc.cas ⟨2, 3, [0, 1], [[], []], 4⟩).F (a'.tmps.getD 188 undef) w' := hF 41 (by decide)
    obtain ⟨a8, n8, c8, b8, m8, d8, e8, i8, s8⟩ : (Dsc.cas ⟨2, 3, [0, 1], [[0, 0], [0, 0]], 4⟩).F (a'.tmps.getD 192 undef) w' := hF 45 (by decide)
    obtain ⟨a9, n9, c9, b9, m9, d9, e9, i9, s9⟩ : (Dsc.cas ⟨2, 3, [0, 1], [p0, [0, 3, 97, 98, 99, 100]], 4⟩).F (a'.tmps.getD 199 undef) w' := hF 52 (by decide)
    obtain ⟨a10, n10, c10, b10, m10, d10, e10, i10, s10⟩ : (Dsc.cas ⟨2, 3, [0, 1], [p0, [0, 2, 97, 98, 99, 0]], 4⟩).F (a'.tmps.getD 206 undef) w' := hF 59 (by decide)
    obtain ⟨a11, n11, c11, b11, m11, d11, e11, i11, s11⟩ : (Dsc.cas ⟨2, 3, [0, 1], [p0, [0, 5, 97, 98, 99, 0]], 4⟩).F (a'.tmps.getD 213 undef) w' := hF 66 (by decide)
    obtain ⟨a12, n12, c12, b12, m12, d12, e12, i12, s12⟩ : (Dsc.cas ⟨2, 3, [0, 1], [[0, 0, 0, 0, 0, 1], p1], 4⟩).F (a'.tmps.getD 220 undef) w' := hF 73 (by decide)
    obtain ⟨a13, n13, c13, b13, m13, d13, e13, i13, s13⟩ : (Dsc.cas ⟨2, 3, [0, 1], [[128, 0, 0, 0, 0, 0], p1], 4⟩).F (a'.tmps.getD 227 undef) w' := hF 80 (by decide)
    obtain ⟨a14, n14, c14, b14, m14, d14, e14, i14, s14⟩ : (Dsc.cas ⟨2, 3, [0, 1], [p0 ++ [0], p1 ++ [0]], 4⟩).F (a'.tmps.getD 239 undef) w' := hF 92 (by decide)
    obtain ⟨a15, n15, c15, b15, m15, d15, e15, i15, s15⟩ : (Dsc.cas ⟨2, 3, [0, 1], [[0, 0, 0, 0, 0, 0, 0], [3, 97, 98, 99, 0, 0, 0]], 4⟩).F (a'.tmps.getD 243 undef) w' := hF 96 (by decide)
    obtain ⟨a16, n16, c16, b16, m16, d16, e16, i16, s16⟩ : (Dsc.cas ⟨2, 3, [1, 0], [p1, p0], 0⟩).F (a'.tmps.getD 253 undef) w' := hF 106 (by decide)
    obtain ⟨a17, n17, c17, b17, m17, d17, e17, i17, s17⟩ : (Dsc.cas ⟨2, 3, [2, 0], [p2, p0], 0⟩).F (a'.tmps.getD 263 undef) w' := hF 116 (by decide)
    obtain ⟨a18, n18, c18, b18, m18, d18, e18, i18, s18⟩ : (Dsc.cas ⟨2, 3, [2, 1, 0], [p2, p1, p0], 0⟩).F (a'.tmps.getD 276 undef) w' := hF 129 (by decide)
    obtain ⟨a19, n19, c19, b19, m19, d19, e19, i19, s19⟩ : (Dsc.cas ⟨2, 3, [2, 1, 0], [p2, p1, p1], 4⟩).F (a'.tmps.getD 289 undef) w' := hF 142 (by decide)
    obtain ⟨a20, n20, c20, b20, m20, d20, e20, i20, s20⟩ : (Dsc.cas ⟨2, 3, [0, 1, 2], [p0, p1, p1], 4⟩).F (a'.tmps.getD 302 undef) w' := hF 155 (by decide)
    exact st_new _ _ rfl (rn_b34 rfl e0 e1 e2 e3 e4 e5 e6 e7 e8 e9 e10 e11 e12 e13 e14 e15 e16 e17 e18 e19 e20) (bel1 hC _) (bel1 (Below.refl _ _) _) (new_tab i0 s0 i1 s1 i2 s2 i3 s3 i4 s4 i5 s5 i6 s6 i7 s7 i8 s8 i9 s9 i10 s10 i11 s11 i12 s12 i13 s13 i14 s14 i15 s15 i16 s16 i17 s17 i18 s18 i19 s19 i20 s20)
  · intro a' w' hC hA hF
    obtain ⟨g, e, _⟩ : TabAt w' (a'.tmps.getD 303 undef) := hF 156 (by decide)
    exact st_new _ _ rfl (rn_len34 rfl e) hC (Below.refl _ _) rfl
  · intro a' w' hC hA hF
    exact st_new _ _ rfl (rn_move rfl rfl) hC (Below.refl _ _) rfl
  intro val wu BU hF
  have f1 : TabAt wu (val 156) := hF 156 (by decide)
  have f2 : val 157 = .int .i64 21 := hF 157 (by decide)
  have f3 : val 158 = .int .i64 0 := hF 158 (by decide)
  clear hF
  have hlen : 147 + 159 ≤ act.tmps.size := by rw [hact]; exact Nat.le_of_ble_eq_true (by kernel_rfl)
  obtain ⟨g, f1, hg, hcas⟩ := f1
  change Exit.then _ (Exit.then _ _) Exit.normal (puts act 147 val 159) wu
  rw [puts_cut act 147 val 159 hlen, hact]
  clear hlen ha1 ha2 ha19 hact act
  simp only [List.take_succ_cons, List.take_zero, List.drop_succ_cons, List.drop_zero, List.cons_append, List.nil_append, seqV, Nat.reduceAdd, f1, f2, f3]
  clear f1 f2 f3
  have HCas := hid hcas
  clear hcas
  have HTw' := hid HTw
  have HCw' := hid HCw
  have HP01' := hid HP01
  have hXt : X < wu.heap.size := by have := BT.size; have := BU.size; omega
  have hTu : T < wu.heap.size := Nat.lt_of_lt_of_le hTl BU.size
  have BW0 : Below w.heap.size w wu := belowCall (belowCall B0 BT) BU
  clear HTw HCw HP01 HP2 e0 e1 hT hTs
  go_wp2_with fail
  go_loopg [305] 21 (fun g1 s305 wx => ∃ k : Nat, k + g1 = 21 ∧ s305 = .int .i64 (k : Int) ∧ Below wu.heap.size wu wx)
  case atStart => exact ⟨0, by omega, rfl, Below.refl _ _⟩
  case round =>
    obtain ⟨k, hkg, rfl, hbk⟩ := hrel
    have Bk : Below wt.heap.size wt wr := BU.trans (hbk.mono BU.size)
    cases gk with
    | succ g1 =>
      have hzk : (k : Int) < 21 := by omega
      have hmem : tabC.getD k default ∈ tabC := by
        have hl : k < tabC.length := by have : tabC.length = 21 := rfl; omega
        rw [List.getD_eq_getElem?_getD, List.getElem?_eq_getElem hl]; exact List.getElem_mem hl
      obtain ⟨s, s', hD, hR, hor⟩ := okC_is (tab_ok _ hmem)
      have hK2 := tab_K _ hmem
      obtain ⟨a1, n1, c1, a2, n2, c2, q0, q1, q2, q3, q4, hI, hS⟩ := casAt_below (HCas.out k (by omega)) hg hbk
      generalize tabC.getD k default = c at *
      obtain ⟨K, N, zs, ps, er⟩ := c
      simp only at hD hR hor hK2 q0 q1 q4 hI hS
      have HBx : Hid (∀ W, Below (wr.alloc (.cells #[.int .i64 K, .int .i64 N, .slice a1 n1 c1, .slice a2 n2 c2, .int .i64 er] 33)).heap.size (wr.alloc (.cells #[.int .i64 K, .int .i64 N, .slice a1 n1 c1, .slice a2 n2 c2, .int .i64 er] 33)) W → (W.cell? ⟨wr.heap.size, 0, none⟩ = some (.int .i64 K) ∧ W.cell? ⟨wr.heap.size, 1, none⟩ = some (.int .i64 N)) ∧ (W.cell? ⟨wr.heap.size, 2, none⟩ = some (.slice a1 n1 c1) ∧ W.cell? ⟨wr.heap.size, 3, none⟩ = some (.slice a2 n2 c2)) ∧ W.cell? ⟨wr.heap.size, 4, none⟩ = some (.int .i64 er)) := fun W hW => by
        have h := (Has.new wr wr.heap.size #[.int .i64 K, .int .i64 N, .slice a1 n1 c1, .slice a2 n2 c2, .int .i64 er] 33 rfl).below hW (by simp)
        exact ⟨⟨h.cell 0, h.cell 1⟩, ⟨h.cell 2, h.cell 3⟩, h.cell 4⟩
      have bA : Below wr.heap.size wr (wr.alloc (.cells #[.int .i64 K, .int .i64 N, .slice a1 n1 c1, .slice a2 n2 c2, .int .i64 er] 33)) := (Below.refl _ _).alloc (Nat.le_refl _) _
      have HDc : Hid (∀ W, Below wr.heap.size wr W → Calls Try.prog 10 #[.agg #[.int .i64 K, .int .i64 N], .slice a1 n1 c1, .slice a2 n2 c2] W fun e w' => e = .returned (.tuple #[.string (ofBs s), .int .i64 er]) ∧ Below W.heap.size W w') := fun W hW => by
        refine (decode_any K N _ _ zs ps W (ints64_below hI hW) (hS.below hW)).mono ?_
        rintro e w' ⟨s1, er1, rfl, hd, hb⟩
        obtain ⟨y1, y2⟩ := hd.one hD
        rw [y1, y2]; exact ⟨rfl, hb⟩
      have HRc : Hid (∀ W, Below wr.heap.size wr W → Calls Try.prog 11 #[.agg #[.int .i64 K, .int .i64 N], .slice a1 n1 c1, .slice a2 n2 c2, .int .i64 2] W fun e w' => e = .returned (.tuple #[.string (ofBs s'), .int .i64 er]) ∧ Below W.heap.size W w') := fun W hW => by
        refine (rebuild_any K N 2 _ _ zs ps W (ints64_below hI hW) (hS.below hW)).mono ?_
        rintro e w' ⟨s1, er1, rfl, hd, _, hb⟩
        obtain ⟨y1, y2⟩ := hd.one hR
        rw [y1, y2]; exact ⟨rfl, hb⟩
      have HT2 : Hid (∀ W, Below wr.heap.size wr W → W.cell? ⟨T, 2, none⟩ = some (.string (ofBs p2))) := fun W hW => (HTw'.out W (Bk.trans (hW.mono Bk.size))).2.2
      have t1 := str_eq (⟨#[97, 98, 99]⟩ : ByteArray)
      have t2 := str_eq (ofBs p2)
      have t3 : ((⟨#[]⟩ : ByteArray).toList == (⟨#[97, 98, 99]⟩ : ByteArray).toList) = false := by decide +kernel
      have t4 : ((⟨#[]⟩ : ByteArray).toList == (ofBs p2).toList) = false := by decide +kernel
      have t5 : (ofBs p2).toList.isEmpty = false := by decide +kernel
      have e7 : (er != er) = false := by simp
      clear hD hR hI hS hmem
      rcases hor with ⟨hor1, hor2, hor3⟩ | ⟨hor1, hor2, hor3⟩
      · have d0 : (er == 0) = true := by simp [hor1]
        have es : ofBs s = ⟨#[97, 98, 99]⟩ := by rw [hor2]; rfl
        have es' : ofBs s' = ofBs p2 := by rw [hor3, hK2 hor1]; rfl
        rw [es] at HDc
        rw [es'] at HRc
        clear es es' hor1 hor2 hor3 hK2
        generalize ofBs p2 = sp at *
        go_wp2_with fail
        refine (HDc.out _ bA).mono ?_
        rintro e w2 ⟨rfl, b2⟩
        obtain ⟨⟨x0, x1⟩, ⟨x2, x3⟩, x4⟩ := HBx.out w2 b2
        have bB : Below wr.heap.size wr w2 := bA.trans (b2.mono bA.size)
        clear q0 q1 q2 q3 q4 HDc
        go_wp2_with fail
        refine (HRc.out _ bB).mono ?_
        rintro e w3 ⟨rfl, b3⟩
        have b23 := b2.trans (b3.mono b2.size)
        clear x0 x1 x2 x3 x4
        obtain ⟨⟨x0, x1⟩, ⟨x2, x3⟩, x4⟩ := HBx.out w3 b23
        have bC : Below wr.heap.size wr w3 := bB.trans (b3.mono bB.size)
        have qT := HT2.out w3 bC
        have bD : Below wu.heap.size wu w3 := hbk.trans (bC.mono hbk.size)
        clear b2 b3 b23 HRc HBx
        go_wp2_with fail
        go_roundg g1
        case measure => omega
        case rel => exact ⟨k + 1, by omega, by first | rfl | simp, bD⟩
      · have d0 : (er == 0) = false := by simp [hor1]
        have es : ofBs s = ⟨#[]⟩ := by rw [hor2]; rfl
        have es' : ofBs s' = ⟨#[]⟩ := by rw [hor3]; rfl
        rw [es] at HDc
        rw [es'] at HRc
        clear es es' hor1 hor2 hor3 hK2
        generalize ofBs p2 = sp at *
        go_wp2_with fail
        refine (HDc.out _ bA).mono ?_
        rintro e w2 ⟨rfl, b2⟩
        obtain ⟨⟨x0, x1⟩, ⟨x2, x3⟩, x4⟩ := HBx.out w2 b2
        have bB : Below wr.heap.size wr w2 := bA.trans (b2.mono bA.size)
        clear q0 q1 q2 q3 q4 HDc
        go_wp2_with fail
        refine (HRc.out _ bB).mono ?_
        rintro e w3 ⟨rfl, b3⟩
        have b23 := b2.trans (b3.mono b2.size)
        clear x0 x1 x2 x3 x4
        obtain ⟨⟨x0, x1⟩, ⟨x2, x3⟩, x4⟩ := HBx.out w3 b23
        have bC : Below wr.heap.size wr w3 := bB.trans (b3.mono bB.size)
        have qT := HT2.out w3 bC
        have bD : Below wu.heap.size wu w3 := hbk.trans (bC.mono hbk.size)
        clear b2 b3 b23 HRc HBx
        go_wp2_with fail
        go_roundg g1
        case measure => omega
        case rel => exact ⟨k + 1, by omega, by first | rfl | simp, bD⟩
    | zero =>
      have hzk : ¬ (k : Int) < 21 := by omega
      obtain ⟨wv, hwv⟩ : ∃ wv, wv = wr := ⟨_, rfl⟩
      subst hwv
      obtain ⟨⟨c0, c1⟩, _, _⟩ := HCw'.out wv Bk
      have hXv : X < wv.heap.size := Nat.lt_of_lt_of_le hXt hbk.size
      have HRa : Hid (Calls Try.prog 11 #[.agg #[.int .i64 2, .int .i64 3], .slice (some ⟨wv.heap.size, 0, none⟩) 2 2, .slice (some ⟨T, 0, none⟩) 2 3, .int .i64 3] (wv.alloc (.cells #[.int .i64 0, .int .i64 1] 3)).drew fun e w' => ∃ s, e = .returned (.tuple #[.string (ofBs s), .int .i64 1]) ∧ Below wv.heap.size wv w' ∧ w'.cell? ⟨X, 0, none⟩ = some (.int .i64 2) ∧ w'.cell? ⟨X, 1, none⟩ = some (.int .i64 3)) := by
        have bB : Below wv.heap.size wv (wv.alloc (.cells #[.int .i64 0, .int .i64 1] 3)).drew := ((Below.refl _ _).alloc (Nat.le_refl _) _).drew
        refine (rebuild_any 2 3 3 _ _ [0, 1] [p0, p1] _ (ints_lit [0, 1] (Has.new wv _ _ 3 rfl).drew (by decide) (by decide)) (HP01'.out _ (Bk.trans (bB.mono Bk.size)))).mono ?_
        rintro e w' ⟨s1, er1, rfl, hd, _, hb⟩
        obtain ⟨_, y2⟩ := hd.one (s' := []) (er' := 1) (.inl ⟨by decide, rfl, rfl⟩)
        have h8 : Below wv.heap.size wv w' := bB.trans (hb.mono (by simp))
        have hc := HCw'.out w' (Bk.trans (h8.mono Bk.size))
        rw [y2]; exact ⟨s1, rfl, h8, hc.1.1, hc.1.2⟩
      go_wp2_with fail
      go_region_held3 (fun w' => w'.cell? ⟨X, 0, none⟩ = some (.int .i64 2) ∧ w'.cell? ⟨X, 1, none⟩ = some (.int .i64 3)) (go_keep) (first | (go_at_call 11; refine HRa.out.mono ?_; rintro e wy ⟨s5, rfl, by5, k0, k1⟩))
      have By : Below wt.heap.size wt wy := Bk.trans (by5.mono Bk.size)
      have hXy : X < wy.heap.size := Nat.lt_of_lt_of_le hXv by5.size
      have HRb : Hid (Calls Try.prog 11 #[.agg #[.int .i64 2, .int .i64 3], .slice (some ⟨wy.heap.size, 0, none⟩) 1 1, .slice (some ⟨T, 0, none⟩) 1 3, .int .i64 (-1)] (wy.alloc (.cells #[.int .i64 0] 3)).drew fun e w' => ∃ s, e = .returned (.tuple #[.string (ofBs s), .int .i64 1]) ∧ Below wy.heap.size wy w' ∧ w'.cell? ⟨X, 0, none⟩ = some (.int .i64 2) ∧ w'.cell? ⟨X, 1, none⟩ = some (.int .i64 3)) := by
        have bB : Below wy.heap.size wy (wy.alloc (.cells #[.int .i64 0] 3)).drew := ((Below.refl _ _).alloc (Nat.le_refl _) _).drew
        have hS1 : Strs (wy.alloc (.cells #[.int .i64 0] 3)).drew (.slice (some ⟨T, 0, none⟩) 1 3) [p0] := strs_at [p0] rfl (by decide) (Nat.lt_of_lt_of_le hTl (By.trans (bB.mono By.size)).size) (by decide) (fun j hj => by
          match j, hj with
          | 0, _ => exact (HTw'.out _ (By.trans (bB.mono By.size))).1
          | j + 1, h => exact absurd h (by simp))
        refine (rebuild_any 2 3 (-1) _ _ [0] [p0] _ (ints_lit [0] (Has.new wy _ _ 3 rfl).drew (by decide) (by decide)) hS1).mono ?_
        rintro e w' ⟨s1, er1, rfl, hd, _, hb⟩
        obtain ⟨_, y2⟩ := hd.one (s' := []) (er' := 1) (.inl ⟨by decide, rfl, rfl⟩)
        have h8 : Below wy.heap.size wy w' := bB.trans (hb.mono (by simp))
        have hc := HCw'.out w' (By.trans (h8.mono By.size))
        rw [y2]; exact ⟨s1, rfl, h8, hc.1.1, hc.1.2⟩
      clear c0 c1 HRa
      go_wp2_with fail
      go_region_held3 (fun w' => w'.cell? ⟨X, 0, none⟩ = some (.int .i64 2) ∧ w'.cell? ⟨X, 1, none⟩ = some (.int .i64 3)) (go_keep) (first | (go_at_call 11; refine HRb.out.mono ?_; rintro e wz ⟨s6, rfl, by6, k2, k3⟩))
      clear HRb k0 k1
      go_wp2_with fail
      go_ret
      exact ⟨rfl, belowCall (belowCall BW0 hbk) (by5.trans (by6.mono by5.size))⟩
end Go.Proofs.Ytfbjpgcgdhhfnaa
namespace Go.Proofs.Ytfbjpgcgdhhfnaa.codeNames
open Go.ChangeShapes Go.WideShapes Go.ChangeAt Go.RowKit Go.Joins
set_option linter.unusedVariables false
set_option maxRecDepth 100000 in
theorem lifted (os : Os) (started : os.Started) (H : Type) (enc : TypeId × Value → H) :
    ReturnsInHanded {} Try.checked os 3 .any (Rows.codeNamesSpec.pre6 enc Try.prog Try.f3 Rows.codeNamesRow.domain false) (Rows.codeNamesSpec.post enc Try.prog Try.f3 false true false false) := by
  refine returnsInHanded_of_change (C := Try.checked) own started (by kernel_rfl) Try.func3
    (ChangeSpec.witness6 (enc := enc) (C := Try.checked) false ⟨#[], #[], []⟩ 8 (by kernel_rfl) (by kernel_rfl) (by kernel_rfl) (by kernel_rfl)) ?_
  intro W base args ds gs before hval0 hW hcnd _
  have hW' := hW
  obtain ⟨p, q, hA0, hV, rfl, hfz, hnd⟩ := hW
  have hA : DataW.TrodAll enc Try.prog W 0 (fun _ => true) true Try.f3.params.toList args.toList ds p := hA0
  rw [Try.params3] at hA
  obtain ⟨rfl, rfl, rfl⟩ := trodAll_none hA
  obtain ⟨rfl, rfl⟩ := trodVars_none hV
  clear hA0 hval0
  simp only [List.append_nil] at hW'
  refine (names_walk W).mono fun e W' ⟨he, hg⟩ => ?_
  subst he
  exact ⟨_, rfl, _, _, _, [], [], [], hW', trodAll_cons_mk (shut_bool Try.underlying4 _) trodAll_mk0, rfl, rfl, hg.frame _, fun h => by cases h⟩

theorem over : Rows.codeNamesRow.holds Try.pinned (OpenSpec.ofChange Rows.codeNamesSpec) :=
  OpenClaim.holds_of_wide 3 Try.f3 rfl rfl rfl rfl rfl rfl rfl ⟨rfl, rfl, rfl, rfl, rfl⟩ rfl rfl rfl rfl rfl (by kernel_rfl) Try.func3 (by kernel_rfl)
    (of_decide_eq_true (by kernel_rfl)) (by unfold Func.isWrapper; first | (rw [if_pos (by decide +kernel)]; kernel_rfl) | (rw [if_neg (by decide +kernel)]; exact ⟨rfl, rfl⟩))
    (fun os started H enc _ => lifted os started H enc)

end Go.Proofs.Ytfbjpgcgdhhfnaa.codeNames
namespace Go.Proofs.Ytfbjpgcgdhhfnaa
theorem codeNames_holds : Rows.CodeNamesSaid := codeNames.over
#print axioms codeNames_holds
end Go.Proofs.Ytfbjpgcgdhhfnaa
