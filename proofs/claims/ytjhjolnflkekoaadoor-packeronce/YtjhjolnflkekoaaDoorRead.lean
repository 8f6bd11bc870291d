/- The contract of Read. -/
import Derived.Test.YtjhjolnflkekoaaDoorTold
namespace Go.Proofs.YtjhjolnflkekoaaDoor
open Go.RowKit Go.Maps
open Pk
set_option linter.unusedVariables false
set_option maxRecDepth 20000 in
set_option maxHeartbeats 2000000 in
/-- a pack's blob -/
theorem read_yes (b : ByteArray) (hb : b.size ≤ 500000) (c : List (List Nat)) (hM : May c) (hc : bs b = blob c) (w : World) :
    Calls Tryd.prog 15 #[.string b] w fun e w' => ∃ g g', e = .returned (.tuple #[.slice (some ⟨g, 0, none⟩) (toldS b).length (toldS b).length, .slice (some ⟨g', 0, none⟩) (toldS b).length (toldS b).length, .int .i64 0]) ∧ Tx w' (some ⟨g, 0, none⟩) (toldS b) ∧ Is w' (some ⟨g', 0, none⟩) (at' c) ∧ Below w.heap.size w w' := by
  have ht := told_blob hM hc
  have hm := hM.most
  have hl : (toldS b).length ≤ 4096 := by rw [← ht, List.length_map] at hm; exact hm
  have htt := told_tot b
  have C1 := fun W => told_any b hb W
  have C2 := fun W A cap (h : Tx W A (toldS b)) => make_yes (toldS b) A cap W h (by rw [ht]; exact hM)
  have C3 := fun W A cap (h : Tx W A (toldS b)) => cloned_any (toldS b) A cap W h (by omega) (by omega)
  have eb : ofBs (blob ((toldS b).map bs)) = b := by rw [ht, ← hc, ofBs_bs]
  rw [eb] at C2
  rw [ht] at C2
  generalize toldS b = l at *
  generalize at' c = z at *
  generalize l.length = n at *
  clear ht hm hl htt eb hM hc hb
  go_enter Tryd.func15, Tryd.ntmps15
  go_wp2_with fail
  refine (C1 _).mono ?_
  rintro e w1 ⟨rfl, h1, b1⟩
  have H1 := hid h1
  have B1 := hid b1
  clear h1 b1
  go_wp2_with fail
  refine (C2 _ _ _ H1.out).mono ?_
  rintro e w2 ⟨g', rfl, h2, b2⟩
  have H2 := hid h2
  have H3 := hid (H1.out.below b2)
  have B2 := hid (B1.out.trans (b2.mono B1.out.size))
  clear h2 b2
  go_wp2_with fail
  refine (C3 _ _ _ H3.out).mono ?_
  rintro e w3 ⟨rfl, h3, b3⟩
  have H4 := hid h3
  have H5 := hid (H2.out.below b3)
  have B3 := hid (B2.out.trans (b3.mono B2.out.size))
  clear h3 b3
  go_wp2_with fail
  exact ret3 Tryd.results15 rfl rfl rfl rfl ⟨_, _, rfl, H4.out, H5.out, B3.out⟩
set_option maxRecDepth 20000 in
set_option maxHeartbeats 2000000 in
/-- bytes that are none -/
theorem read_no (b : ByteArray) (hb : b.size ≤ 500000) (hN : ∀ c, May c → bs b ≠ blob c) (w : World) :
    Calls Tryd.prog 15 #[.string b] w fun e w' => e = .returned (.tuple #[.slice none 0 0, .slice none 0 0, .int .i64 4]) ∧ Below w.heap.size w w' := by
  have htt := told_tot b
  have hln : (toldS b).length ≤ 500000 := by rw [told_len]; have := szs_size b; omega
  have C1 := fun W => told_any b hb W
  by_cases hM : May ((toldS b).map bs)
  · have C2 := fun W A cap (h : Tx W A (toldS b)) => make_yes (toldS b) A cap W h hM
    have hne : ofBs (blob ((toldS b).map bs)) ≠ b := fun e => hN _ hM (by rw [← e, bs_ofBs _ (blob_lt _)]; rw [e])
    have hq := str_ne hne
    clear hne
    generalize toldS b = l at *
    generalize at' (l.map bs) = z at *
    generalize ofBs (blob (l.map bs)) = b' at *
    generalize l.length = n at *
    clear htt hln hM hN hb
    go_enter Tryd.func15, Tryd.ntmps15
    go_wp2_with fail
    refine (C1 _).mono ?_
    rintro e w1 ⟨rfl, h1, b1⟩
    have H1 := hid h1
    have B1 := hid b1
    clear h1 b1
    go_wp2_with fail
    refine (C2 _ _ _ H1.out).mono ?_
    rintro e w2 ⟨g', rfl, h2, b2⟩
    have B2 := hid (B1.out.trans (b2.mono B1.out.size))
    clear h2 b2
    go_wp2_with fail
    exact ret3 Tryd.results15 rfl rfl rfl rfl ⟨rfl, B2.out⟩
  · have C2 := fun W A cap (h : Tx W A (toldS b)) => make_no (toldS b) A cap W h (by omega) (by omega) hM
    generalize toldS b = l at *
    generalize l.length = n at *
    clear htt hM hN hb hln
    go_enter Tryd.func15, Tryd.ntmps15
    go_wp2_with fail
    refine (C1 _).mono ?_
    rintro e w1 ⟨rfl, h1, b1⟩
    have H1 := hid h1
    have B1 := hid b1
    clear h1 b1
    go_wp2_with fail
    refine (C2 _ _ _ H1.out).mono ?_
    rintro e w2 ⟨rfl, b2⟩
    have B2 := hid (B1.out.trans (b2.mono B1.out.size))
    clear b2
    go_wp2_with fail
    exact ret3 Tryd.results15 rfl rfl rfl rfl ⟨rfl, B2.out⟩
end Go.Proofs.YtjhjolnflkekoaaDoor
