/- The walk of PathNames. -/
import Derived.Test.YtnhekngmgjnodaaDoorNam2
namespace Go.Proofs.YtnhekngmgjnodaaDoor
open Go.RowKit
open Pa
set_option linter.unusedVariables false
set_option maxRecDepth 20000 in
set_option maxHeartbeats 16000000 in
theorem names_walk (w : World) : Calls Tryd.prog 4 #[] w fun e w' => e = .returned (.bool true) ∧ Below w.heap.size w w' := by
  go_enter Tryd.func4, Tryd.ntmps4
  go_wp2_with fail
  refine (times_any 33 ⟨#[97]⟩ (by decide) (by decide) w).mono ?_
  rintro e w1 ⟨rfl, b1⟩
  generalize h33 : repS 33 ⟨#[97]⟩ = t33
  have H33 := hid h33
  clear h33
  go_wp2_with fail
  refine (times_any 49 ⟨#[97, 47]⟩ (by decide) (by decide) w1).mono ?_
  rintro e w2 ⟨rfl, b2⟩
  generalize h49 : repS 49 ⟨#[97, 47]⟩ = t49
  have hz49 : t49.size = 98 := by rw [← h49]; exact size49
  obtain ⟨L, hL⟩ : ∃ L : List ByteArray, L = [⟨#[]⟩, ⟨#[47, 97]⟩, ⟨#[97, 47]⟩, ⟨#[97, 47, 47, 98]⟩, ⟨#[97, 47, 46]⟩, ⟨#[97, 47, 46, 46]⟩, ⟨#[46]⟩, ⟨#[46, 46]⟩, ⟨#[97, 32, 98]⟩, ⟨#[97, 127]⟩, ⟨#[97, 32]⟩, ⟨#[97, 195, 169]⟩, t33, t49.extract 0 97] := ⟨_, rfl⟩
  have HLb : Hid (L = bad14) := by
    rw [hL, ← h49, ← H33]; rfl
  clear h49
  obtain ⟨q, hq⟩ : ∃ q, q = w2.heap.size := ⟨_, rfl⟩
  obtain ⟨W3, hW3⟩ : ∃ W3, W3 = w2.alloc (.cells (L.map Value.string).toArray 9) := ⟨_, rfl⟩
  have HT : Hid (Tx W3 (some ⟨q, 0, none⟩) L) := by
    rw [hW3, hq]; exact has_tx (Has.new w2 _ _ _ rfl)
  have HB : Hid (Below w.heap.size w W3) := by
    rw [hW3]
    exact (b1.trans (b2.mono b1.size)).trans (((Below.refl _ w2).alloc (Nat.le_refl _) _).mono (Nat.le_trans b1.size b2.size))
  have HL : Hid (L.length = 14) := by rw [hL]; rfl
  rw [hL] at hW3
  simp only [List.map_cons, List.map_nil] at hW3
  have HZ49 := hid hz49
  clear b1 b2 hL
  go_upto_region 2 with fail
  rw [← hq]
  rw [← hW3]
  clear hW3 hq
  go_wp2_with fail
  go_loopw [2, 11] (fun _ v11 wr => ∃ k : Nat, k ≤ 14 ∧ v11 = .int .i64 (k : Int) ∧ Hid (Below w.heap.size w wr) ∧ Hid (Below W3.heap.size W3 wr)) (fun _ v11 _ => 14 - (intOf v11).toNat)
  case atStart => exact ⟨0, by omega, rfl, HB, hid (Below.refl _ _)⟩
  case round =>
    obtain ⟨k, hk, rfl, HBr, HBs⟩ := hrel
    by_cases hlt : k < 14
    · have i1 : (k : Int) < 14 := by omega
      obtain ⟨g, o, hg, hgl, hc⟩ := tx_cell HT.out HBs.out (j := k) (by rw [HL.out]; exact hlt)
      obtain ⟨rfl, rfl⟩ : q = g ∧ 0 = o := by simpa using hg
      have hm := bad_at hlt
      rw [← HLb.out] at hm
      rw [Nat.zero_add] at hc
      clear hg hgl
      generalize L.getD k ⟨#[]⟩ = s at hc hm
      have HM := hid hm.1
      have hs : s.size ≤ 400 := hm.2
      clear hm
      have HS := hid hs
      clear hs
      have wk : IntKind.i64.wrap ((k : Int) + 1) = ((k + 1 : Nat) : Int) := by rw [IntKind.wrap_i64]; omega
      go_wp2_with fail
      refine (may_any s wr (Nat.le_trans HS.out (by decide))).mono ?_
      rw [HM.out]
      rintro e wx ⟨rfl, bx⟩
      have HBr' := hid (HBr.out.trans (bx.mono HBr.out.size))
      have HBs' := hid (HBs.out.trans (bx.mono HBs.out.size))
      clear bx hc HBr HBs
      go_wp2_with fail
      go_roundw
      case rel => exact ⟨k + 1, by omega, by rfl, HBr', HBs'⟩
      case measure => first | (simp [intOf]; done) | (simp [intOf]; omega)
    · obtain rfl : k = 14 := by omega
      rw [show ((14 : Nat) : Int) = 14 from rfl]
      clear hlt hk HT HL HLb HZ49 H33
      have HB1 := HBr
      clear HBr HBs
      go_wp2_with fail
      go_loopw [3, 4] (fun v3 v4 wr => ∃ (k : Nat) (A : Option Addr) (c : Nat), k ≤ 256 ∧ v4 = .int .i64 (k : Int) ∧ v3 = .slice A k c ∧ Hid (wr.ownsRow w.heap.size 38 3 (.slice A k c) k ((manyF k).flatMap fl3)) ∧ Hid (Below w.heap.size w wr)) (fun _ v4 _ => 256 - (intOf v4).toNat)
      case atStart => exact ⟨0, none, 0, by omega, rfl, rfl, hid ⟨rfl, .inl ⟨rfl, rfl⟩⟩, HB1⟩
      case round =>
        obtain ⟨k, A, c, hk, rfl, rfl, HO, HBr⟩ := hrel
        clear HB1
        by_cases hlt : k < 256
        · have i1 : (k : Int) < 256 := by omega
          have wk : IntKind.i64.wrap ((k : Int) + 1) = ((k + 1 : Nat) : Int) := by rw [IntKind.wrap_i64]; omega
          have hcv := conv2 wr (97 + k / 16) (97 + k % 16)
          have HMK := hid (fm_join k)
          have HSY : Hid ((⟨#[102]⟩ : ByteArray).size + (⟨#[(97 + k / 16).toUInt8, (97 + k % 16).toUInt8]⟩ : ByteArray).size ≤ 1000000) := by show 3 ≤ 1000000; decide
          generalize (⟨#[(97 + k / 16).toUInt8, (97 + k % 16).toUInt8]⟩ : ByteArray) = y at hcv HMK HSY
          have e1 : ((97 + k / 16 : Nat) : Int) = 97 + (k : Int) / 16 := by omega
          have e2 : ((97 + k % 16 : Nat) : Int) = 97 + (k : Int) % 16 := by omega
          rw [e1, e2] at hcv
          clear e1 e2
          have HA := hid ((Below.refl _ wr).alloc (Nat.le_refl _) (.cells #[.int .u8 (97 + (k : Int) / 16), .int .u8 (97 + (k : Int) % 16)] 5))
          obtain ⟨A2, c2, w2, hrun, hown2, hb2, -⟩ := grow_fs (own_below HO.out HA.out (Nat.le_refl _)) ⟨⟨#[102]⟩ ++ y, false, ⟨#[]⟩⟩ (by omega) (Nat.le_trans HBr.out.size HA.out.size)
          rw [HMK.out, show (⟨fmB k, false, ⟨#[]⟩⟩ : Fl) = fm k from rfl, ← many_snoc] at hown2
          have HOwn2 := hid hown2
          have HB2 := hid ((HBr.out.trans (HA.out.mono HBr.out.size)).trans hb2)
          dsimp only at hrun
          rw [World.size_alloc] at hrun
          have HRun := hid hrun
          clear hrun hown2 hb2 HO HA HBr HMK
          go_upto_region 10 with (first | (at_builtin; go_loud (refine wpList_val rfl (rn_app22 rfl rfl rfl rfl HRun.out) ?_)) | (refine wpList_val rfl (rn_add9 rfl rfl rfl HSY.out) ?_))
          clear HRun hcv HSY
          go_wp2_with fail
          go_roundw
          case rel => exact ⟨k + 1, A2, c2, by omega, by rfl, rfl, HOwn2, HB2⟩
          case measure => first | (simp [intOf]; done) | (simp [intOf]; omega)
        · obtain rfl : k = 256 := by omega
          rw [show ((256 : Nat) : Int) = 256 from rfl]
          clear hlt hk
          go_wp2_with fail
          clear hz49
          refine (times_any 16384 ⟨#[120]⟩ (by decide) (by decide) wr).mono ?_
          rintro e w6 ⟨rfl, b6⟩
          have HO6 := hid (own_below HO.out b6 (Nat.le_refl _))
          have HB6 := hid (HBr.out.trans (b6.mono HBr.out.size))
          have HG1 : Hid (treeP [⟨⟨#[122]⟩, false, repS 16384 ⟨#[120]⟩⟩] = true) := big_tree
          have HS1 : Hid (Small [⟨⟨#[122]⟩, false, repS 16384 ⟨#[120]⟩⟩]) := big_small
          have HG2 : Hid (treeP (manyF 256 ++ [⟨⟨#[122]⟩, false, repS 16384 ⟨#[120]⟩⟩]) = false) := manyb_tree
          have HS2 : Hid (Small (manyF 256 ++ [⟨⟨#[122]⟩, false, repS 16384 ⟨#[120]⟩⟩])) := manyb_small
          have HG3 : Hid (treeP [⟨⟨#[122]⟩, false, repS 16384 ⟨#[120]⟩ ++ ⟨#[120]⟩⟩] = false) := over_tree
          have HS3 : Hid (Small [⟨⟨#[122]⟩, false, repS 16384 ⟨#[120]⟩ ++ ⟨#[120]⟩⟩]) := over_small
          have HZB : Hid (¬ 9223372036854775807 < (repS 16384 ⟨#[120]⟩).size + 1) := by
            show ¬ _ < _
            rw [bigSize]; decide
          clear b6 HO HBr
          generalize repS 16384 ⟨#[120]⟩ = tb at HG1 HS1 HG2 HS2 HG3 HS3 HZB ⊢
          have HNE : Hid ((Value.slice A 256 c).ownBlock ≠ some w6.heap.size) := fun h => absurd (HO6.out.lt _ h).2 (Nat.lt_irrefl _)
          go_wp2_with fail
          refine (may_any ⟨#[46, 46, 46]⟩ _ (by decide)).mono ?_
          rw [may_dots]
          rintro e w7 ⟨rfl, b7⟩
          have n6 := Has.new w6 w6.heap.size #[.string ⟨#[122]⟩, .bool false, .string tb] 38 rfl
          have a6 : Below w6.heap.size w6 _ := (Below.refl _ w6).alloc (Nat.le_refl _) (.cells #[.string ⟨#[122]⟩, .bool false, .string tb] 38)
          have HX7 := hid (n6.below b7 n6.lt)
          have HO7 := hid (own_below (own_below HO6.out a6 (Nat.le_refl _)) b7 (Nat.le_refl _))
          have HB7 := hid ((HB6.out.trans (a6.mono HB6.out.size)).trans (b7.mono (Nat.le_trans HB6.out.size a6.size)))
          clear a6 n6 b7 HO6 HB6
          generalize w6.heap.size = bx at *
          go_wp2_with fail
          refine (times_any 32 ⟨#[97]⟩ (by decide) (by decide) w7).mono ?_
          rintro e w8 ⟨rfl, b8⟩
          have HM32 := hid may_32
          have HZ32 : Hid ((repS 32 ⟨#[97]⟩).size ≤ 4611686018427387903) := by
            show _ ≤ _
            rw [repS_size]; decide
          generalize repS 32 ⟨#[97]⟩ = u32 at HM32 HZ32 ⊢
          have HX8 := hid (HX7.out.below b8 HX7.out.lt)
          have HO8 := hid (own_below HO7.out b8 (Nat.le_refl _))
          have HB8 := hid (HB7.out.trans (b8.mono HB7.out.size))
          clear b8 HX7 HO7 HB7
          go_wp2_with fail
          refine (may_any u32 w8 HZ32.out).mono ?_
          rw [HM32.out]
          rintro e w9 ⟨rfl, b9⟩
          have HX9 := hid (HX8.out.below b9 HX8.out.lt)
          have HO9 := hid (own_below HO8.out b9 (Nat.le_refl _))
          have HB9 := hid (HB8.out.trans (b9.mono HB8.out.size))
          clear b9 HX8 HO8 HB8
          go_wp2_with fail
          refine (times_any 48 ⟨#[97, 47]⟩ (by decide) (by decide) w9).mono ?_
          rintro e w10 ⟨rfl, b10⟩
          have HM48 := hid may_48
          have HZ48 : Hid (¬ 9223372036854775807 < (repS 48 ⟨#[97, 47]⟩).size + 1) := by
            show ¬ _ < _
            rw [repS_size]; decide
          have HY48 : Hid ((repS 48 ⟨#[97, 47]⟩ ++ ⟨#[98]⟩).size ≤ 4611686018427387903) := by
            show _ ≤ _
            rw [ByteArray.size_append, repS_size]; decide
          generalize repS 48 ⟨#[97, 47]⟩ = u48 at HM48 HZ48 HY48 ⊢
          have HX10 := hid (HX9.out.below b10 HX9.out.lt)
          have HO10 := hid (own_below HO9.out b10 (Nat.le_refl _))
          have HB10 := hid (HB9.out.trans (b10.mono HB9.out.size))
          clear b10 HX9 HO9 HB9
          go_wp2_with (rw [if_neg HZ48.out])
          generalize u48 ++ ⟨#[98]⟩ = v48 at HM48 HY48 ⊢
          refine (may_any v48 w10 HY48.out).mono ?_
          rw [HM48.out]
          rintro e w11 ⟨rfl, b11⟩
          have HX11 := hid (HX10.out.below b11 HX10.out.lt)
          have HO11 := hid (own_below HO10.out b11 (Nat.le_refl _))
          have HB11 := hid (HB10.out.trans (b11.mono HB10.out.size))
          clear b11 HX10 HO10 HB10
          go_wp2_with fail
          refine (times_any 47 ⟨#[97, 47]⟩ (by decide) (by decide) w11).mono ?_
          rintro e w12 ⟨rfl, b12⟩
          have HM47 := hid may_47
          have HZ47 : Hid (¬ 9223372036854775807 < (repS 47 ⟨#[97, 47]⟩).size + 2) := by
            show ¬ _ < _
            rw [repS_size]; decide
          have HY47 : Hid ((repS 47 ⟨#[97, 47]⟩ ++ ⟨#[98, 98]⟩).size ≤ 4611686018427387903) := by
            show _ ≤ _
            rw [ByteArray.size_append, repS_size]; decide
          generalize repS 47 ⟨#[97, 47]⟩ = u47 at HM47 HZ47 HY47 ⊢
          have HX12 := hid (HX11.out.below b12 HX11.out.lt)
          have HO12 := hid (own_below HO11.out b12 (Nat.le_refl _))
          have HB12 := hid (HB11.out.trans (b12.mono HB11.out.size))
          clear b12 HX11 HO11 HB11
          go_wp2_with (rw [if_neg HZ47.out])
          generalize u47 ++ ⟨#[98, 98]⟩ = v47 at HM47 HY47 ⊢
          refine (may_any v47 w12 HY47.out).mono ?_
          rw [HM47.out]
          rintro e w13 ⟨rfl, b13⟩
          have HX13 := hid (HX12.out.below b13 HX12.out.lt)
          have HO13 := hid (own_below HO12.out b13 (Nat.le_refl _))
          have HB13 := hid (HB12.out.trans (b13.mono HB12.out.size))
          clear b13 HX12 HO12 HB12
          go_wp2_with fail
          refine (tree_any [] none 0 nil_small w13 (Fs.nil _ _)).mono ?_
          rw [nil_tree]
          rintro e w14 ⟨rfl, b14⟩
          have HX14 := hid (HX13.out.below b14 HX13.out.lt)
          have HO14 := hid (own_below HO13.out b14 (Nat.le_refl _))
          have HB14 := hid (HB13.out.trans (b14.mono HB13.out.size))
          clear b14 HX13 HO13 HB13
          go_wp2_with fail
          have HC := tree_any (manyF 256) A c many_small w14 (by
            obtain ⟨A', c', hv, -, hF⟩ := own_fs HO14.out
            obtain ⟨h1, -, -⟩ := Value.slice.inj hv
            rw [h1]; exact hF)
          rw [many_len, many_tree] at HC
          refine HC.mono ?_
          clear HC
          rintro e w15 ⟨rfl, b15⟩
          have HX15 := hid (HX14.out.below b15 HX14.out.lt)
          have HO15 := hid (own_below HO14.out b15 (Nat.le_refl _))
          have HB15 := hid (HB14.out.trans (b15.mono HB14.out.size))
          clear b15 HX14 HO14 HB14
          have hc0 : w15.cell? ⟨bx, 0, none⟩ = some (.string ⟨#[122]⟩) := HX15.out.cell 0
          have hc1 : w15.cell? ⟨bx, 1, none⟩ = some (.bool false) := HX15.out.cell 1
          have hc2 : w15.cell? ⟨bx, 2, none⟩ = some (.string tb) := HX15.out.cell 2
          obtain ⟨A2, c2, w16, hrun, hown, hb16, hkeep⟩ := grow_fs HO15.out ⟨⟨#[122]⟩, false, tb⟩ (by decide) HB15.out.size
          rw [show 256 + 1 = 257 from rfl] at hrun hown
          dsimp only at hrun
          have HRun := hid hrun
          have HX16 := hid (hkeep _ _ _ HX15.out HNE.out)
          have HB16 := hid (HB15.out.trans hb16)
          have HF16 : Hid (Fs w16 A2 (manyF 256 ++ [⟨⟨#[122]⟩, false, tb⟩])) := by
            obtain ⟨A', c', hv, -, hF⟩ := own_fs hown
            obtain ⟨h1, -, -⟩ := Value.slice.inj hv
            rw [h1]; exact hF
          clear hrun hown hb16 hkeep HX15 HO15 HB15 HNE
          go_wp2_with fail
          refine wpList_valg rfl (rn_app22 rfl rfl rfl rfl HRun.out) ?_
          clear HRun hc0 hc1 hc2
          go_wp2_with fail
          have HC := tree_any (manyF 256 ++ [⟨⟨#[122]⟩, false, tb⟩]) A2 c2 HS2.out w16 HF16.out
          rw [List.length_append, many_len, HG2.out] at HC
          refine HC.mono ?_
          clear HC
          rintro e w17 ⟨rfl, b17⟩
          have HX17 := hid (HX16.out.below b17 HX16.out.lt)
          have HB17 := hid (HB16.out.trans (b17.mono HB16.out.size))
          clear b17 HX16 HB16 HF16 HG2 HS2
          have hc0 : w17.cell? ⟨bx, 0, none⟩ = some (.string ⟨#[122]⟩) := HX17.out.cell 0
          have hc1 : w17.cell? ⟨bx, 1, none⟩ = some (.bool false) := HX17.out.cell 1
          have hc2 : w17.cell? ⟨bx, 2, none⟩ = some (.string tb) := HX17.out.cell 2
          go_wp2_with fail
          have n17 := Has.new w17 w17.heap.size #[.string ⟨#[122]⟩, .bool false, .string tb] 38 rfl
          have F17 : Fs _ (some ⟨w17.heap.size, 0, none⟩) [⟨⟨#[122]⟩, false, tb⟩] := has_fs (l := [⟨⟨#[122]⟩, false, tb⟩]) n17
          have a17 : Below w17.heap.size w17 _ := (Below.refl _ w17).alloc (Nat.le_refl _) (.cells #[.string ⟨#[122]⟩, .bool false, .string tb] 38)
          refine (tree_any [⟨⟨#[122]⟩, false, tb⟩] (some ⟨w17.heap.size, 0, none⟩) 1 HS1.out _ F17).mono ?_
          rw [HG1.out]
          rintro e w18 ⟨rfl, b18⟩
          have HX18 := hid ((HX17.out.below a17 HX17.out.lt).below b18 (Nat.lt_of_lt_of_le HX17.out.lt a17.size))
          have HB18 := hid ((HB17.out.trans (a17.mono HB17.out.size)).trans (b18.mono (Nat.le_trans HB17.out.size a17.size)))
          clear hc0 hc1 hc2 n17 F17 a17 b18 HX17 HB17 HG1 HS1
          have hc2 : w18.cell? ⟨bx, 2, none⟩ = some (.string tb) := HX18.out.cell 2
          go_wp2_with (rw [if_neg HZB.out])
          clear hc2 HX18
          generalize tb ++ ⟨#[120]⟩ = tc at HG3 HS3 ⊢
          have n18 := Has.new w18 w18.heap.size #[.string ⟨#[122]⟩, .bool false, .string tc] 38 rfl
          have F18 : Fs _ (some ⟨w18.heap.size, 0, none⟩) [⟨⟨#[122]⟩, false, tc⟩] := has_fs (l := [⟨⟨#[122]⟩, false, tc⟩]) n18
          have a18 : Below w18.heap.size w18 _ := (Below.refl _ w18).alloc (Nat.le_refl _) (.cells #[.string ⟨#[122]⟩, .bool false, .string tc] 38)
          refine (tree_any [⟨⟨#[122]⟩, false, tc⟩] (some ⟨w18.heap.size, 0, none⟩) 1 HS3.out _ F18).mono ?_
          rw [HG3.out]
          rintro e w19 ⟨rfl, b19⟩
          have HB19 := hid ((HB18.out.trans (a18.mono HB18.out.size)).trans (b19.mono (Nat.le_trans HB18.out.size a18.size)))
          clear n18 F18 a18 b19 HB18
          go_wp2_with fail
          clear HG3 HS3
          have n19 := Has.new w19 w19.heap.size #[.string ⟨#[98]⟩, .bool false, .string ⟨#[]⟩, .string ⟨#[97]⟩, .bool false, .string ⟨#[]⟩] 38 rfl
          have F19 : Fs _ (some ⟨w19.heap.size, 0, none⟩) [fPb, fPa] := has_fs (l := [fPb, fPa]) n19
          have a19 : Below w19.heap.size w19 _ := (Below.refl _ w19).alloc (Nat.le_refl _) (.cells #[.string ⟨#[98]⟩, .bool false, .string ⟨#[]⟩, .string ⟨#[97]⟩, .bool false, .string ⟨#[]⟩] 38)
          refine (tree_any [fPb, fPa] (some ⟨w19.heap.size, 0, none⟩) 2 ba_small _ F19).mono ?_
          rw [ba_tree]
          rintro e w20 ⟨rfl, b20⟩
          have HB20 := hid ((HB19.out.trans (a19.mono HB19.out.size)).trans (b20.mono (Nat.le_trans HB19.out.size a19.size)))
          clear n19 F19 a19 b20 HB19
          go_wp2_with fail
          have n20 := Has.new w20 w20.heap.size #[.string ⟨#[97]⟩, .bool false, .string ⟨#[]⟩, .string ⟨#[97]⟩, .bool false, .string ⟨#[]⟩] 38 rfl
          have F20 : Fs _ (some ⟨w20.heap.size, 0, none⟩) [fPa, fPa] := has_fs (l := [fPa, fPa]) n20
          have a20 : Below w20.heap.size w20 _ := (Below.refl _ w20).alloc (Nat.le_refl _) (.cells #[.string ⟨#[97]⟩, .bool false, .string ⟨#[]⟩, .string ⟨#[97]⟩, .bool false, .string ⟨#[]⟩] 38)
          refine (tree_any [fPa, fPa] (some ⟨w20.heap.size, 0, none⟩) 2 aa_small _ F20).mono ?_
          rw [aa_tree]
          rintro e w21 ⟨rfl, b21⟩
          have HB21 := hid ((HB20.out.trans (a20.mono HB20.out.size)).trans (b21.mono (Nat.le_trans HB20.out.size a20.size)))
          clear n20 F20 a20 b21 HB20
          go_wp2_with fail
          have n21 := Has.new w21 w21.heap.size #[.string ⟨#[97]⟩, .bool true, .string ⟨#[120]⟩] 38 rfl
          have F21 : Fs _ (some ⟨w21.heap.size, 0, none⟩) [fPx] := has_fs (l := [fPx]) n21
          have a21 : Below w21.heap.size w21 _ := (Below.refl _ w21).alloc (Nat.le_refl _) (.cells #[.string ⟨#[97]⟩, .bool true, .string ⟨#[120]⟩] 38)
          refine (tree_any [fPx] (some ⟨w21.heap.size, 0, none⟩) 1 ax_small _ F21).mono ?_
          rw [ax_tree]
          rintro e w22 ⟨rfl, b22⟩
          have HB22 := hid ((HB21.out.trans (a21.mono HB21.out.size)).trans (b22.mono (Nat.le_trans HB21.out.size a21.size)))
          clear n21 F21 a21 b22 HB21
          go_wp2_with fail
          have n22 := Has.new w22 w22.heap.size #[.string ⟨#[97]⟩, .bool true, .string ⟨#[]⟩, .string ⟨#[97, 45, 98]⟩, .bool false, .string ⟨#[]⟩, .string ⟨#[97, 47, 98]⟩, .bool false, .string ⟨#[]⟩] 38 rfl
          have F22 : Fs _ (some ⟨w22.heap.size, 0, none⟩) [fPd, fPe, fPf] := has_fs (l := [fPd, fPe, fPf]) n22
          have a22 : Below w22.heap.size w22 _ := (Below.refl _ w22).alloc (Nat.le_refl _) (.cells #[.string ⟨#[97]⟩, .bool true, .string ⟨#[]⟩, .string ⟨#[97, 45, 98]⟩, .bool false, .string ⟨#[]⟩, .string ⟨#[97, 47, 98]⟩, .bool false, .string ⟨#[]⟩] 38)
          refine (tree_any [fPd, fPe, fPf] (some ⟨w22.heap.size, 0, none⟩) 3 def_small _ F22).mono ?_
          rw [def_tree]
          rintro e w23 ⟨rfl, b23⟩
          have HB23 := hid ((HB22.out.trans (a22.mono HB22.out.size)).trans (b23.mono (Nat.le_trans HB22.out.size a22.size)))
          clear n22 F22 a22 b23 HB22
          go_wp2_with fail
          refine (awake_any w23).mono ?_
          rintro e w24 ⟨rfl, b24⟩
          have HB24 := hid (HB23.out.trans (b24.mono HB23.out.size))
          clear b24 HB23
          go_wp2_with fail
          go_ret
          exact ⟨rfl, HB24.out⟩
end Go.Proofs.YtnhekngmgjnodaaDoor
