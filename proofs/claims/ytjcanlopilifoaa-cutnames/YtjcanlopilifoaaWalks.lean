/- The first example, and the walks of CutTells and CutNames. -/
import Derived.Test.YtjcanlopilifoaaTimes
namespace Go.Proofs.Ytjcanlopilifoaa
open Go.RowKit
open Gr
set_option linter.unusedVariables false
theorem ends63 : ends (List.replicate 63 97) = [63] := by decide +kernel
theorem ends1 : ends (List.replicate 1 97) = [1] := by decide +kernel
theorem endsE : ends (bs ⟨#[]⟩) = [] := by decide +kernel
theorem cut63 (w : World) : Calls Try.prog 9 #[.string (rep 63 97)] w fun e w' => ∃ g cap t, e = .returned (.slice (some ⟨g, 0, none⟩) 1 cap) ∧ w'.cell? ⟨g, 0, none⟩ = some (.string t) ∧ t.size = 63 ∧ g < w'.heap.size ∧ Below w.heap.size w w' := by
  refine (cut_any (rep 63 97) (by rw [rep_size]; decide) w).mono ?_
  rintro e w' ⟨v, rfl, h1, h2⟩
  have e1 : chunks (rep 63 97) = [(rep 63 97).extract 0 63] := by
    unfold chunks
    rw [rep_bs 63 97 (by decide), ends63]; rfl
  rw [e1] at h1
  obtain ⟨A, cap, rfl, _, hc⟩ := row_form h1
  obtain ⟨g, rfl, _, hg, hc, _⟩ := hc 0 (by simp)
  refine ⟨g, cap, _, rfl, hc, ?_, hg, h2⟩
  rw [ByteArray.size_extract, rep_size]; rfl
theorem cutE (w : World) : Calls Try.prog 9 #[.string ⟨#[]⟩] w fun e w' => ∃ A cap, e = .returned (.slice A 0 cap) ∧ Below w.heap.size w w' := by
  refine (cut_any ⟨#[]⟩ (by decide) w).mono ?_
  rintro e w' ⟨v, rfl, h1, h2⟩
  have e1 : chunks ⟨#[]⟩ = [] := by
    unfold chunks
    rw [endsE]; rfl
  rw [e1] at h1
  obtain ⟨A, cap, rfl, _, hc⟩ := row_form h1
  exact ⟨A, cap, rfl, h2⟩
theorem ends1_any (w : World) : Calls Try.prog 12 #[.string (rep 1 97)] w fun e w' => ∃ A cap, e = .returned (.slice A 1 cap) ∧ Below w.heap.size w w' := by
  refine (ends_any (rep 1 97) (by rw [rep_size]; decide) w).mono ?_
  rintro e w' ⟨v, rfl, h1, h2⟩
  rw [rep_bs 1 97 (by decide), ends1] at h1
  obtain ⟨A, cap, rfl, _, hc⟩ := row_form h1
  exact ⟨A, cap, rfl, h2⟩
set_option maxRecDepth 20000 in
theorem awake_true (w : World) : Calls Try.prog 7 #[] w fun e w' => e = .returned (.bool true) ∧ Below w.heap.size w w' := by
  go_enter Try.func7, Try.ntmps7
  go_wp2_with fail
  refine (times_any 63 97 (by decide) _).mono ?_
  rintro e w1 ⟨rfl, b1⟩
  go_wp2_with fail
  refine (cut63 _).mono ?_
  rintro e w2 ⟨g, cap, t, rfl, c0, ht, hg, b2⟩
  have B2 := hid (b1.trans (b2.mono b1.size))
  have q1 : ((t.size : Nat) : Int) = 63 := by omega
  clear b1 b2 ht
  go_wp2_with fail
  refine (cutE _).mono ?_
  rintro e w3 ⟨A, cap3, rfl, b3⟩
  have B3 := hid (B2.out.trans (b3.mono B2.out.size))
  clear b3
  go_wp2_with fail
  refine (times_any 1 97 (by decide) _).mono ?_
  rintro e w4 ⟨rfl, b4⟩
  have B4 := hid (B3.out.trans (b4.mono B3.out.size))
  clear b4
  go_wp2_with fail
  refine (ends1_any _).mono ?_
  rintro e w5 ⟨A5, cap5, rfl, b5⟩
  have B5 := hid (B4.out.trans (b5.mono B4.out.size))
  clear b5
  go_wp2_with fail
  go_ret
  exact ⟨rfl, B5.out⟩
theorem row_own {W : World} {b : Nat} {e : TypeId} {v : Value} {n : Nat} {xs : List Value} (h : W.ownsRow b e 1 v n xs) : ∀ k, v.ownBlock = some k → k < W.heap.size := fun k hk => (h.lt k hk).2
set_option maxHeartbeats 1000000 in
theorem tells_walk (s : ByteArray) (hs : s.size ≤ 9223372036854775807) (w : World) : Calls Try.prog 3 #[.string s] w fun e w' => e = .returned (.bool true) ∧ Below w.heap.size w w' := by
  by_cases hl : (30000 : Int) < (s.size : Int)
  · go_enter Try.func3, Try.ntmps3
    go_wp2_with fail
    refine (awake_true _).mono ?_
    rintro e w1 ⟨rfl, b1⟩
    go_wp2_with fail
    go_ret
    exact ⟨rfl, b1⟩
  · have hs2 : s.size ≤ 100000 := by omega
    have hcl : (chunks s).length ≤ 1000000 := by have := chunks_len s; have := ends_len s; omega
    have hel : (ends (bs s)).length ≤ 1000000 := by have := ends_len s; omega
    go_enter Try.func3, Try.ntmps3
    go_wp2_with fail
    go_loopw [3] (fun v3 wr => ∃ k : Nat, k ≤ 2 ∧ v3 = .int .i64 (k : Int) ∧ Below w.heap.size w wr) (fun v3 _ => 2 - (intOf v3).toNat)
    case atStart => exact ⟨0, by omega, rfl, Below.refl _ _⟩
    case round =>
      obtain ⟨k, hk, rfl, hB⟩ := hrel
      by_cases hlt : k < 2
      · have i1 : (k : Int) < 2 := by omega
        have wk : IntKind.i64.wrap ((k : Int) + 1) = ((k + 1 : Nat) : Int) := by rw [IntKind.wrap_i64]; omega
        go_wp2_with fail
        refine (cut_any s hs2 _).mono ?_
        rintro e w1 ⟨va, rfl, ha, b1⟩
        have hbase := hB.size
        have H1 := hid ha
        have B1 := hid (hB.trans (b1.mono hbase))
        have S1 := b1.size
        clear ha b1 hB
        go_wp2_with fail
        refine (refCut_any s hs2 _).mono ?_
        rintro e w2 ⟨vb, rfl, hb, b2⟩
        have H2 := hid hb
        have HT := texts_any hcl (row_below H1.out b2) hb (row_own H1.out)
        have B2 := hid (B1.out.trans (b2.mono B1.out.size))
        clear hb b2
        go_wp2_with fail
        refine HT.mono ?_
        rintro e w3 ⟨rfl, b3⟩
        have B3 := hid (B2.out.trans (b3.mono hbase))
        clear b3 HT H1 H2 B1 B2
        go_wp2_with fail
        refine (ends_any s hs2 _).mono ?_
        rintro e w4 ⟨vc, rfl, hc, b4⟩
        have H4 := hid hc
        have B4 := hid (B3.out.trans (b4.mono B3.out.size))
        clear hc b4
        go_wp2_with fail
        refine (refEnds_any s hs2 _).mono ?_
        rintro e w5 ⟨vd, rfl, hd, b5⟩
        have HI := ints_any hel (row_below H4.out b5) hd (row_own H4.out)
        have B5 := hid (B4.out.trans (b5.mono B4.out.size))
        clear hd b5
        go_wp2_with fail
        refine HI.mono ?_
        rintro e w6 ⟨rfl, b6⟩
        have B6 := hid (B5.out.trans (b6.mono B3.out.size))
        clear b6 HI
        go_wp2_with fail
        go_roundw
        case rel => exact ⟨k + 1, by omega, by rfl, B6.out⟩
        case measure => first | (simp [intOf]; done) | (simp [intOf]; omega)
      · obtain rfl : k = 2 := by omega
        go_wp2_with fail
        refine (awake_true _).mono ?_
        rintro e w1 ⟨rfl, b1⟩
        have B1 := hid (hB.trans (b1.mono hB.size))
        go_wp2_with fail
        go_ret
        exact ⟨rfl, B1.out⟩
def L8 : List Nat := [0, 1, 63, 64, 1023, 1024, 1025, 2048]
theorem L8_le : ∀ k, L8.getD k 0 ≤ 100000 := by
  intro k
  match k with
  | 0 | 1 | 2 | 3 | 4 | 5 | 6 | 7 => decide
  | k + 8 => simp [L8]
theorem L8_cell (k : Nat) (h : k < 8) : (#[.int .i64 0, .int .i64 1, .int .i64 63, .int .i64 64, .int .i64 1023, .int .i64 1024, .int .i64 1025, .int .i64 2048] : Array Value)[k]? = some (.int .i64 ((L8.getD k 0 : Nat) : Int)) := by
  match k, h with
  | 0, _ | 1, _ | 2, _ | 3, _ | 4, _ | 5, _ | 6, _ | 7, _ => rfl
set_option maxHeartbeats 1000000 in
theorem names_walk (w : World) : Calls Try.prog 4 #[] w fun e w' => e = .returned (.bool true) ∧ Below w.heap.size w w' := by
  go_enter Try.func4, Try.ntmps4
  go_wp2_with fail
  go_loopw [1] (fun v1 wr => ∃ b : Nat, b ≤ 256 ∧ v1 = .int .i64 (b : Int) ∧ Below w.heap.size w wr) (fun v1 _ => 256 - (intOf v1).toNat)
  case atStart => exact ⟨0, by omega, rfl, Below.refl _ _⟩
  case round =>
    obtain ⟨b, hb, rfl, hB⟩ := hrel
    by_cases hlt : b < 256
    · have d0 : decide ((b : Int) < 256) = true := by simp; omega
      have e0 : IntKind.u8.wrap (b : Int) = (b : Int) := by rw [IntKind.wrap_u8']; omega
      have wb : IntKind.i64.wrap ((b : Int) + 1) = ((b + 1 : Nat) : Int) := by rw [IntKind.wrap_i64]; omega
      obtain ⟨wo, hwo⟩ : ∃ wo, wo = wr := ⟨_, rfl⟩
      subst hwo
      have hsz := hB.size
      have HB := hid hB
      clear hB
      go_wp2_with fail
      have hq := Has.new wo wo.heap.size #[.int .i64 0, .int .i64 1, .int .i64 63, .int .i64 64, .int .i64 1023, .int .i64 1024, .int .i64 1025, .int .i64 2048] 3 rfl
      go_loopw [3, 4, 11] (fun v3 v4 v11 wr => ∃ k : Nat, k ≤ 8 ∧ v11 = .int .i64 (k : Int) ∧ Has wr wo.heap.size #[.int .i64 0, .int .i64 1, .int .i64 63, .int .i64 64, .int .i64 1023, .int .i64 1024, .int .i64 1025, .int .i64 2048] 3 ∧ Below (wo.heap.size + 1) (wo.alloc (.cells #[.int .i64 0, .int .i64 1, .int .i64 63, .int .i64 64, .int .i64 1023, .int .i64 1024, .int .i64 1025, .int .i64 2048] 3)) wr) (fun _ _ v11 _ => 8 - (intOf v11).toNat)
      case atStart => exact ⟨0, by omega, rfl, hq, Below.refl _ _⟩
      case round =>
        obtain ⟨k, hk, rfl, hh, hB2⟩ := hrel
        have HW := hid (HB.out.trans (((Below.refl _ wo).alloc (Nat.le_refl _) (.cells #[.int .i64 0, .int .i64 1, .int .i64 63, .int .i64 64, .int .i64 1023, .int .i64 1024, .int .i64 1025, .int .i64 2048] 3)).mono hsz |>.trans (hB2.mono (by omega))))
        have hs2 := hB2.size
        rw [World.size_alloc] at hs2
        clear hq
        by_cases hlk : k < 8
        · have i0 : (0 : Int) ≤ (k : Int) := by omega
          have i1 : (k : Int) < 8 := by omega
          have c0 : wr.cell? ⟨wo.heap.size, k, none⟩ = some (.int .i64 ((L8.getD k 0 : Nat) : Int)) := (hh.cell k).trans (L8_cell k hlk)
          have hle := L8_le k
          generalize L8.getD k 0 = n at *
          have wk : IntKind.i64.wrap ((k : Int) + 1) = ((k + 1 : Nat) : Int) := by rw [IntKind.wrap_i64]; omega
          have hss : (rep n b).size ≤ 100000 := by rw [rep_size]; exact hle
          have hel : (ends (bs (rep n b))).length ≤ 1000000 := by have := ends_len (rep n b); omega
          have HH := hid hh
          have HB2 := hid hB2
          clear hh hB2
          go_wp2_with fail
          refine (times_any n b hle _).mono ?_
          rintro e w3 ⟨rfl, b3⟩
          have B3 := hid (HB2.out.trans (b3.mono hs2))
          have s3 := Nat.le_trans hs2 b3.size
          have H3 := hid (HH.out.below b3 HH.out.lt)
          clear b3
          go_wp2_with fail
          refine (ends_any (rep n b) hss _).mono ?_
          rintro e w4 ⟨vc, rfl, hc, b4⟩
          have H4 := hid hc
          have B4 := hid (B3.out.trans (b4.mono s3))
          have s4 := Nat.le_trans s3 b4.size
          have h4 := hid (H3.out.below b4 H3.out.lt)
          clear hc b4
          go_wp2_with fail
          refine (refEnds_any (rep n b) hss _).mono ?_
          rintro e w5 ⟨vd, rfl, hd, b5⟩
          have HI := ints_any hel (row_below H4.out b5) hd (row_own H4.out)
          have B5 := hid (B4.out.trans (b5.mono s4))
          have h5 := hid (h4.out.below b5 h4.out.lt)
          clear hd b5
          go_wp2_with fail
          refine HI.mono ?_
          rintro e w6 ⟨rfl, b6⟩
          have B6 := hid (B5.out.trans (b6.mono s3))
          have h6 := hid (h5.out.below b6 H3.out.lt)
          clear b6 HI HH HB2 B3 H3 B4 H4 h4 B5 h5 HW HB
          go_wp2_with fail
          go_roundw
          case rel => exact ⟨k + 1, by omega, by rfl, h6.out, B6.out⟩
          case measure => first | (simp [intOf]; done) | (simp [intOf]; omega)
        · obtain rfl : k = 8 := by omega
          clear hh hB2 HB
          go_wp2_with fail
          go_roundw
          case rel => exact ⟨b + 1, by omega, by rfl, HW.out⟩
          case measure => first | (simp [intOf]; done) | (simp [intOf]; omega)
    · obtain rfl : b = 256 := by omega
      go_wp2_with fail
      refine (awake_true _).mono ?_
      rintro e w1 ⟨rfl, b1⟩
      have B1 := hid (hB.trans (b1.mono hB.size))
      go_wp2_with fail
      go_ret
      exact ⟨rfl, B1.out⟩
end Go.Proofs.Ytjcanlopilifoaa
