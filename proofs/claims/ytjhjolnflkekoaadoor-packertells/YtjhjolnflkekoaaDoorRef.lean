/- The contract of Read. -/
import Derived.Test.YtjhjolnflkekoaaDoorTold
import Derived.Test.YtjhjolnflkekoaaDoorMake
import Derived.OwnWalkIn
namespace Go.Proofs.YtjhjolnflkekoaaDoor
open Go.RowKit Go.Maps
open Pk
set_option linter.unusedVariables false
set_option maxRecDepth 20000 in
set_option maxHeartbeats 2000000 in
/-- a pack's blob -/
theorem read_yes (b : ByteArray) (hb : b.size ≤ 500000) (c : List (List Nat)) (hM : May c) (hc : bs b = blob c) (w : World) :
    Calls Tryd.prog 15 #[.string b] w fun e w' => ∃ g g', e = .returned (.tuple #[.slice (some ⟨g, 0, none⟩) (toldS b).length (toldS b).length, .slice (some ⟨g', 0, none⟩) (toldS b).length (toldS b).length, .int .i64 0]) ∧ Tx w' (some ⟨g, 0, none⟩) (toldS b) ∧ Is w' (some ⟨g', 0, none⟩) (at' c) ∧ Below w.heap.size w w' := by
  have ht := told_blob hM hc
  have hm := hM.most
  have hl : (toldS b).length ≤ 4096 := by rw [← ht, List.length_map] at hm; exact hm
  have htt := told_tot b
  have C1 := fun W => told_any b hb W
  have C2 := fun W A cap (h : Tx W A (toldS b)) => make_yes (toldS b) A cap W h (by rw [ht]; exact hM)
  have C3 := fun W A cap (h : Tx W A (toldS b)) => cloned_any (toldS b) A cap W h (by omega) (by omega)
  have eb : ofBs (blob ((toldS b).map bs)) = b := by rw [ht, ← hc, ofBs_bs]
  rw [eb] at C2
  rw [ht] at C2
  generalize toldS b = l at *
  generalize at' c = z at *
  generalize l.length = n at *
  clear ht hm hl htt eb hM hc hb
  go_enter Tryd.func15, Tryd.ntmps15
  go_wp2_with fail
  refine (C1 _).mono ?_
  rintro e w1 ⟨rfl, h1, b1⟩
  have H1 := hid h1
  have B1 := hid b1
  clear h1 b1
  go_wp2_with fail
  refine (C2 _ _ _ H1.out).mono ?_
  rintro e w2 ⟨g', rfl, h2, b2⟩
  have H2 := hid h2
  have H3 := hid (H1.out.below b2)
  have B2 := hid (B1.out.trans (b2.mono B1.out.size))
  clear h2 b2
  go_wp2_with fail
  refine (C3 _ _ _ H3.out).mono ?_
  rintro e w3 ⟨rfl, h3, b3⟩
  have H4 := hid h3
  have H5 := hid (H2.out.below b3)
  have B3 := hid (B2.out.trans (b3.mono B2.out.size))
  clear h3 b3
  go_wp2_with fail
  exact ret3 Tryd.results15 rfl rfl rfl rfl ⟨_, _, rfl, H4.out, H5.out, B3.out⟩
set_option maxRecDepth 20000 in
set_option maxHeartbeats 2000000 in
/-- bytes that are none -/
theorem read_no (b : ByteArray) (hb : b.size ≤ 500000) (hN : ∀ c, May c → bs b ≠ blob c) (w : World) :
    Calls Tryd.prog 15 #[.string b] w fun e w' => e = .returned (.tuple #[.slice none 0 0, .slice none 0 0, .int .i64 4]) ∧ Below w.heap.size w w' := by
  have htt := told_tot b
  have hln : (toldS b).length ≤ 500000 := by rw [told_len]; have := szs_size b; omega
  have C1 := fun W => told_any b hb W
  by_cases hM : May ((toldS b).map bs)
  · have C2 := fun W A cap (h : Tx W A (toldS b)) => make_yes (toldS b) A cap W h hM
    have hne : ofBs (blob ((toldS b).map bs)) ≠ b := fun e => hN _ hM (by rw [← e, bs_ofBs _ (blob_lt _)]; rw [e])
    have hq := str_ne hne
    clear hne
    generalize toldS b = l at *
    generalize at' (l.map bs) = z at *
    generalize ofBs (blob (l.map bs)) = b' at *
    generalize l.length = n at *
    clear htt hln hM hN hb
    go_enter Tryd.func15, Tryd.ntmps15
    go_wp2_with fail
    refine (C1 _).mono ?_
    rintro e w1 ⟨rfl, h1, b1⟩
    have H1 := hid h1
    have B1 := hid b1
    clear h1 b1
    go_wp2_with fail
    refine (C2 _ _ _ H1.out).mono ?_
    rintro e w2 ⟨g', rfl, h2, b2⟩
    have B2 := hid (B1.out.trans (b2.mono B1.out.size))
    clear h2 b2
    go_wp2_with fail
    exact ret3 Tryd.results15 rfl rfl rfl rfl ⟨rfl, B2.out⟩
  · have C2 := fun W A cap (h : Tx W A (toldS b)) => make_no (toldS b) A cap W h (by omega) (by omega) hM
    generalize toldS b = l at *
    generalize l.length = n at *
    clear htt hM hN hb hln
    go_enter Tryd.func15, Tryd.ntmps15
    go_wp2_with fail
    refine (C1 _).mono ?_
    rintro e w1 ⟨rfl, h1, b1⟩
    have H1 := hid h1
    have B1 := hid b1
    clear h1 b1
    go_wp2_with fail
    refine (C2 _ _ _ H1.out).mono ?_
    rintro e w2 ⟨rfl, b2⟩
    have B2 := hid (B1.out.trans (b2.mono B1.out.size))
    clear b2
    go_wp2_with fail
    exact ret3 Tryd.results15 rfl rfl rfl rfl ⟨rfl, B2.out⟩
end Go.Proofs.YtjhjolnflkekoaaDoor
/- The contracts of the document's May and Make. -/
namespace Go.Proofs.YtjhjolnflkekoaaDoor
open Go.RowKit Go.Maps
open Pk
set_option linter.unusedVariables false
theorem ex_next {l : List ByteArray} {k : Nat} (h : k < l.length) : Pre 0 ((l.take (k + 1)).map bs) ↔ Pre 0 ((l.take k).map bs) ∧ (1 ≤ (l.getD k ⟨#[]⟩).size ∧ (l.getD k ⟨#[]⟩).size ≤ 16384) ∧ bs (l.getD k ⟨#[]⟩) ∉ (l.take k).map bs := by
  rw [take_next l k h, List.map_append, List.map_singleton, Pre.snoc, bs_length]
  exact ⟨fun h => ⟨h.1, h.2.1, h.2.2.1⟩, fun h => ⟨h.1, h.2.1, h.2.2, .inl (Nat.zero_le _)⟩⟩
theorem may_pre0 {l : List ByteArray} (h : May (l.map bs)) (k : Nat) : Pre 0 ((l.take k).map bs) := by
  have h1 := Well.may h k
  exact ⟨h1.each, h1.apart, .inl (Nat.zero_le _)⟩
theorem not_pre0 {l : List ByteArray} {k : Nat} (h : ¬ Pre 0 ((l.take k).map bs)) : mayB l = false := mayB_no (fun hm => h (may_pre0 hm k))
set_option maxRecDepth 20000 in
set_option maxHeartbeats 2000000 in
theorem refMay_any (l : List ByteArray) (A : Option Addr) (cap : Nat) (w : World) (h : Tx w A l) (hl : l.length ≤ 1000000) (ht : tot l ≤ 100000000) :
    Calls Tryd.prog 42 #[.slice A l.length cap] w fun e w' => e = .returned (.bool (mayB l)) ∧ Below w.heap.size w w' := by
  by_cases h1 : 1 ≤ l.length ∧ l.length ≤ 4096
  · obtain ⟨n, hn⟩ : ∃ n, n = l.length := ⟨_, rfl⟩
    have HN := hid hn
    have HL := hid h
    rw [← hn] at h1 hl ⊢
    have d1 : decide ((n : Int) < 1) = false := by simp; omega
    have d2 : decide ((4096 : Int) < (n : Int)) = false := by simp; omega
    clear hn h
    go_enter Tryd.func42, Tryd.ntmps42
    go_wp2_with fail
    go_loopw [3, 4, 5] (fun v3 v4 _ wr => ∃ k : Nat, k ≤ n ∧ v4 = .int .i64 (k : Int) ∧ v3 = .int .i64 (tot (l.take k) : Int) ∧ Hid (Pre 0 ((l.take k).map bs)) ∧ Below w.heap.size w wr) (fun _ v4 _ _ => n - (intOf v4).toNat)
    case atStart => exact ⟨0, Nat.zero_le _, rfl, rfl, Pre.nil _, Below.refl _ _⟩
    case round =>
      obtain ⟨k, hk, rfl, rfl, hG, hB⟩ := hrel
      by_cases hlt : k < n
      · have hkl : k < l.length := by rw [← HN.out]; exact hlt
        obtain ⟨g, o, rfl, hg, c0⟩ := tx_cell HL.out hB hkl
        have hnx := hid (ex_next hkl)
        have htk := tot_take l k hkl
        have htl := tot_take_le l (k + 1)
        have hsl := tot_le (getD_mem hkl)
        obtain ⟨t1, ht1⟩ : ∃ t1, t1 = tot (l.take (k + 1)) := ⟨_, rfl⟩
        have HT1 := hid ht1
        rw [← ht1] at htk htl
        obtain ⟨s, hs⟩ : ∃ s, s = l.getD k ⟨#[]⟩ := ⟨_, rfl⟩
        have HS := hid hs
        rw [← hs] at c0 hnx htk hsl
        generalize tot (l.take k) = t at *
        have i1 : (k : Int) < (n : Int) := by omega
        have i0 : (0 : Int) ≤ (k : Int) := by omega
        have wk : IntKind.i64.wrap ((k : Int) + 1) = ((k + 1 : Nat) : Int) := by rw [IntKind.wrap_i64]; omega
        have wt : IntKind.i64.wrap ((t : Int) + (s.size : Int)) = (t1 : Int) := by rw [IntKind.wrap_i64]; omega
        have HB := hid hB
        clear htk htl hsl ht1 hs hB
        by_cases e1 : 1 ≤ s.size
        · have x1 : decide ((s.size : Int) < 1) = false := by simp; omega
          by_cases e2 : s.size ≤ 16384
          · have x2 : decide ((16384 : Int) < (s.size : Int)) = false := by simp; omega
            go_wp2_with fail
            obtain ⟨wo, hwo⟩ : ∃ wo, wo = wr := ⟨_, rfl⟩
            have HWO := hid hwo
            clear hwo
            go_loopw [5] (fun v5 wq => ∃ j : Nat, j ≤ k ∧ v5 = .int .i64 (j : Int) ∧ Hid (∀ i, i < j → l.getD i ⟨#[]⟩ ≠ s) ∧ Below w.heap.size w wq) (fun v5 _ => k - (intOf v5).toNat)
            case atStart => exact ⟨0, Nat.zero_le _, rfl, fun i hi => absurd hi (by omega), HB.out⟩
            case round =>
              obtain ⟨j, hj, rfl, hA, hBq⟩ := hrel
              by_cases hjk : j < k
              · have hjl : j < l.length := by rw [← HN.out]; omega
                obtain ⟨g2, o2, e3, hg2, c2⟩ := tx_cell HL.out hBq hjl
                cases e3
                obtain ⟨g3, o3, e3, hg3, c3⟩ := tx_cell HL.out hBq hkl
                cases e3
                rw [← HS.out] at c3
                have j1 : (j : Int) < (k : Int) := by omega
                have j2 : (j : Int) < (n : Int) := by omega
                have wj : IntKind.i64.wrap ((j : Int) + 1) = ((j + 1 : Nat) : Int) := by rw [IntKind.wrap_i64]; omega
                have HBq := hid hBq
                clear hBq c0
                by_cases hse : l.getD j ⟨#[]⟩ = s
                · rw [hse] at c2
                  have HF : Hid (mayB l = false) := hid (not_pre0 (k := k + 1) (fun hw => (hnx.out.1 hw).2.2 (List.mem_map.2 ⟨s, by
                    rw [← hse, List.getD_eq_getElem?_getD, List.getElem?_eq_getElem hjl, Option.getD_some]
                    exact List.mem_take_iff_getElem.2 ⟨j, by omega, rfl⟩, rfl⟩)))
                  clear hse
                  go_wp2_with fail
                  go_region
                  go_wp2_with fail
                  go_ret
                  exact ⟨by rw [HF.out]; rfl, HBq.out.drew⟩
                · have hq := str_ne hse
                  have HA2 : Hid (∀ i, i < j + 1 → l.getD i ⟨#[]⟩ ≠ s) := hid (fun i hi => by
                    by_cases e : i < j
                    · exact hA.out i e
                    · obtain rfl : i = j := by omega
                      exact hse)
                  clear hse
                  generalize l.getD j ⟨#[]⟩ = y at *
                  go_wp2_with fail
                  go_region
                  go_wp2_with fail
                  go_roundw
                  case rel => exact ⟨j + 1, by omega, by rfl, HA2.out, HBq.out.drew⟩
                  case measure => first | (simp [intOf]; done) | (simp [intOf]; omega)
              · obtain rfl : j = k := by omega
                have q1 : ¬ ((j : Int) < (j : Int)) := by omega
                obtain ⟨g3, o3, e3, hg3, c3⟩ := tx_cell HL.out hBq hkl
                cases e3
                rw [← HS.out] at c3
                have HW : Hid (Pre 0 ((l.take (j + 1)).map bs)) := hid (hnx.out.2 ⟨hG.out, ⟨e1, e2⟩, fun hm => by
                  obtain ⟨y, hy, he⟩ := List.mem_map.1 hm
                  obtain ⟨i, hi, rfl⟩ := List.mem_take_iff_getElem.1 hy
                  have := bs_inj he
                  refine hA.out i (by omega) ?_
                  rw [← this, List.getD_eq_getElem?_getD, List.getElem?_eq_getElem (by omega), Option.getD_some]⟩)
                have HBq := hid hBq
                clear hBq c0 hA hG
                go_wp2_with fail
                go_roundw
                case rel => exact ⟨j + 1, by omega, by rfl, by rw [← HT1.out], HW.out, HBq.out⟩
                case measure => first | (simp [intOf]; done) | (simp [intOf]; omega)
          · have x2 : decide ((16384 : Int) < (s.size : Int)) = true := by simp; omega
            have HF : Hid (mayB l = false) := hid (not_pre0 (k := k + 1) (fun hw => e2 (hnx.out.1 hw).2.1.2))
            clear hnx hG
            go_wp2_with fail
            go_ret
            exact ⟨by rw [HF.out]; rfl, HB.out⟩
        · have x1 : decide ((s.size : Int) < 1) = true := by simp; omega
          have HF : Hid (mayB l = false) := hid (not_pre0 (k := k + 1) (fun hw => e1 (hnx.out.1 hw).2.1.1))
          clear hnx hG
          go_wp2_with fail
          go_ret
          exact ⟨by rw [HF.out]; rfl, HB.out⟩
      · obtain rfl : k = n := by omega
        have q1 : ¬ ((k : Int) < (k : Int)) := by omega
        have e : l.take k = l := by rw [HN.out]; exact List.take_length
        rw [e] at hG ⊢
        have htt := ht
        obtain ⟨t, het⟩ : ∃ t, t = tot l := ⟨_, rfl⟩
        have HTT := hid het
        rw [← het] at htt ⊢
        have HM : Hid (May (l.map bs) ↔ (k = 1 ∨ t ≤ 4096)) := hid (by
          have hG2 := hG.out
          constructor
          · intro hm
            rcases hm.room with h | h
            · left; rw [List.length_map] at h; rw [HN.out]; exact h
            · right; rw [het]; exact h
          · intro hm
            exact ⟨by rw [List.length_map, ← HN.out]; exact h1.1, by rw [List.length_map, ← HN.out]; exact h1.2, hG2.each, hG2.apart, by rw [List.length_map, ← HN.out]; rw [het] at hm; exact hm⟩)
        clear het htt ht
        by_cases k1 : k = 1
        · have y1 : ((k : Int) == 1) = true := by simp; omega
          have HF : Hid (mayB l = true) := hid (mayB_yes (HM.out.2 (.inl k1)))
          clear hG HM
          go_wp2_with fail
          go_ret
          exact ⟨by rw [HF.out]; rfl, hB⟩
        · have y1 : ((k : Int) == 1) = false := by simp; omega
          by_cases k2 : t ≤ 4096
          · have y2 : decide ((t : Int) ≤ 4096) = true := by simp; omega
            have HF : Hid (mayB l = true) := hid (mayB_yes (HM.out.2 (.inr k2)))
            clear hG HM
            go_wp2_with fail
            go_ret
            exact ⟨by rw [HF.out]; rfl, hB⟩
          · have y2 : decide ((t : Int) ≤ 4096) = false := by simp; omega
            have HF : Hid (mayB l = false) := hid (mayB_no (fun hm => by have := HM.out.1 hm; omega))
            clear hG HM
            go_wp2_with fail
            go_ret
            exact ⟨by rw [HF.out]; rfl, hB⟩
  · have HF : Hid (mayB l = false) := hid (mayB_no (fun hm => h1 (by have a := hm.one; have b := hm.most; rw [List.length_map] at a b; exact ⟨a, b⟩)))
    generalize l.length = n at *
    by_cases h2 : n < 1
    · have d1 : decide ((n : Int) < 1) = true := by simp; omega
      go_enter Tryd.func42, Tryd.ntmps42
      go_wp2_with fail
      go_ret
      exact ⟨by rw [HF.out]; rfl, Below.refl _ _⟩
    · have d1 : decide ((n : Int) < 1) = false := by simp; omega
      have d2 : decide ((4096 : Int) < (n : Int)) = true := by simp; omega
      go_enter Tryd.func42, Tryd.ntmps42
      go_wp2_with fail
      go_ret
      exact ⟨by rw [HF.out]; rfl, Below.refl _ _⟩
end Go.Proofs.YtjhjolnflkekoaaDoor
