/- The walk of ShaPieces: it answers yes. -/
import Derived.Test.YtpddjbiajagkaaaDoorBack
import Derived.Test.YtpddjbiajagkaaaDoorNames
namespace Go.Proofs.YtpddjbiajagkaaaDoor
open Go.RowKit
/-- a list of numbers that is only read -/
def ReadsInts (w : World) (sp : Option Addr) (len : Nat) : Prop := 0 < len → ∃ cb off, sp = some ⟨cb, off, none⟩ ∧ cb < w.heap.size ∧ ∀ i, i < len → ∃ z : Int, w.cell? ⟨cb, off + i, none⟩ = some (.int .i64 z)
theorem ReadsInts.below {w w' : World} {sp : Option Addr} {len : Nat} (h : ReadsInts w sp len) (hb : Below w.heap.size w w') : ReadsInts w' sp len := by
  intro hp
  obtain ⟨cb, off, h1, h2, h3⟩ := h hp
  refine ⟨cb, off, h1, Nat.lt_of_lt_of_le h2 hb.size, fun i hi => ?_⟩
  obtain ⟨z, hz⟩ := h3 i hi
  exact ⟨z, by rw [hb.cell (p := ⟨cb, off + i, none⟩) h2]; exact hz⟩
theorem cut_at (z : Int) (n : Nat) (hn : n ≤ 1000000) : ∃ k : Nat, k ≤ n ∧ wrap64 ((IntKind.u64.wrap z).tmod ((n : Int) + 1)) = (k : Int) := by
  have h0 : 0 ≤ IntKind.u64.wrap z := by rw [IntKind.wrap_u64]; omega
  have h1 : 0 ≤ (IntKind.u64.wrap z).tmod ((n : Int) + 1) := Int.tmod_nonneg _ h0
  have h2 : (IntKind.u64.wrap z).tmod ((n : Int) + 1) < (n : Int) + 1 := Int.tmod_lt_of_pos _ (by omega)
  refine ⟨((IntKind.u64.wrap z).tmod ((n : Int) + 1)).toNat, by omega, ?_⟩
  unfold wrap64
  omega
theorem str_eq (a : ByteArray) : (a.toList == a.toList) = true := by simp
set_option maxRecDepth 20000 in
set_option maxHeartbeats 2000000 in
theorem pieces_walk (w : World) (ht : Tabs w) (s : ByteArray) (hs : s.size ≤ 9223372036854775807) (sp : Option Addr) (len cap : Nat) (hlen : len ≤ 9223372036854775807) (hc : ReadsInts w sp len) :
    Calls Tryd.prog 6 #[.string s, .slice sp len cap] w fun e w' => e = .returned (.bool true) ∧ Below w.heap.size w w' := by
  by_cases hbig : 20000 < s.size ∨ 200 < len
  · have hd : (decide ((20000 : Int) < (s.size : Int)) || decide ((200 : Int) < (len : Int))) = true := by
      simp; omega
    by_cases h1 : 20000 < s.size
    · have d1 : decide ((20000 : Int) < (s.size : Int)) = true := by simp; omega
      go_enter Tryd.func6, Tryd.ntmps6
      go_wp2_with fail
      refine (works_true w ht).mono ?_
      rintro e w1 ⟨rfl, b1⟩
      go_wp2_with fail
      refine (works_true w1 (ht.below' b1)).mono ?_
      rintro e w2 ⟨rfl, b2⟩
      go_wp2_with fail
      go_ret
      exact ⟨rfl, belowCall b1 b2⟩
    · have d1 : decide ((20000 : Int) < (s.size : Int)) = false := by simp; omega
      have d2 : decide ((200 : Int) < (len : Int)) = true := by simp; omega
      go_enter Tryd.func6, Tryd.ntmps6
      go_wp2_with fail
      refine (works_true w ht).mono ?_
      rintro e w1 ⟨rfl, b1⟩
      go_wp2_with fail
      refine (works_true w1 (ht.below' b1)).mono ?_
      rintro e w2 ⟨rfl, b2⟩
      go_wp2_with fail
      go_ret
      exact ⟨rfl, belowCall b1 b2⟩
  · have d1 : decide ((20000 : Int) < (s.size : Int)) = false := by simp; omega
    have d2 : decide ((200 : Int) < (len : Int)) = false := by simp; omega
    have Hc : Hid _ := hc
    clear hc
    go_enter Tryd.func6, Tryd.ntmps6
    go_wp2_with fail
    refine (works_true w ht).mono ?_
    rintro e w1 ⟨rfl, b1⟩
    have ht1 := ht.below' b1
    go_wp2_with fail
    refine (new_any w1 ht1).mono ?_
    rintro e w2 ⟨rfl, h2, b2⟩
    have ht2 := ht1.below' b2
    have B2 := belowCall b1 b2
    have hw1 : w.heap.size ≤ w1.heap.size := b1.size
    have hsz : 1 < w1.heap.size := ht1.cu.lt
    generalize w1.heap.size = hb at h2 hw1 hsz ⊢
    clear b1 b2 ht1
    go_wp2_with fail
    go_loopw [6, 7] (fun vr vi wr => ∃ (r : ByteArray) (i : Nat) (l : List Nat), vr = .string r ∧ vi = .int .i64 (i : Int) ∧ i ≤ len ∧ bs s = l ++ bs r ∧ IsHash wr hb l ∧ Tabs wr ∧ Below w.heap.size w wr) (fun _ vi _ => len - (intOf vi).toNat)
    case atStart => exact ⟨s, 0, [], rfl, rfl, by omega, rfl, h2, ht2, B2⟩
    case round =>
      clear h2 ht2 B2
      obtain ⟨r, i, l, rfl, rfl, hi, hsl, h5, ht5, b5⟩ := hrel
      have HL : Hid _ := hsl
      have hrs : r.size ≤ s.size := by have := congrArg List.length hsl; rw [List.length_append, bs_length, bs_length] at this; omega
      have hll : l.length ≤ s.size := by have := congrArg List.length hsl; rw [List.length_append, bs_length, bs_length] at this; omega
      have hlb : ∀ x ∈ l, x < 256 := fun x hx => bs_lt s x (by rw [hsl]; exact List.mem_append_left _ hx)
      clear hsl
      by_cases hlt : i < len
      · obtain ⟨cb, off, rfl, hcb, hcells⟩ := Hc.out (by omega)
        obtain ⟨z, hz⟩ := hcells i hlt
        have hz5 : wr.cell? ⟨cb, off + i, none⟩ = some (.int .i64 z) := by rw [b5.cell (p := ⟨cb, off + i, none⟩) hcb]; exact hz
        clear hz hcells
        have i0 : (0 : Int) ≤ (i : Int) := by omega
        have i1 : (i : Int) < (len : Int) := by omega
        obtain ⟨k, hk, hkz⟩ := cut_at z r.size (by omega)
        have k0 : (0 : Int) ≤ (k : Int) := by omega
        have k1 : (k : Int) ≤ (r.size : Int) := by omega
        go_wp2_with fail
        have hbx : bs (r.extract 0 k) = (bs r).take k := by rw [bs_extract]; rfl
        refine (add_any _ ht5 hb l hlb h5 (r.extract 0 k) (by rw [← bs_length, hbx, List.length_take, bs_length]; omega)).mono ?_
        rintro e w6 ⟨rfl, h6, o6⟩
        have hbd : bs (r.extract k r.size) = (bs r).drop k := bs_drop r k
        have HN : Hid (bs s = (l ++ bs (r.extract 0 k)) ++ bs (r.extract k r.size)) := by
          unfold Hid; rw [HL.out, hbx, hbd, List.append_assoc, List.take_append_drop]
        have B6 := b5.trans (o6.below hw1 b5.size)
        have ht6 := ht5.only o6 hsz
        clear hbx hbd h5 o6
        go_wp2_with fail
        exact ⟨⟨_, i + 1, _, rfl, by go_num, by omega, HN.out, h6, ht6, B6⟩, by simp [intOf]; omega⟩
      · obtain rfl : i = len := by omega
        go_wp2_with fail
        refine (add_any _ ht5 hb l hlb h5 r (by omega)).mono ?_
        rintro e w6 ⟨rfl, h6, o6⟩
        have B6 := b5.trans (o6.below hw1 b5.size)
        have ht6 := ht5.only o6 hsz
        rw [← HL.out] at h6
        clear h5 o6
        go_wp2_with fail
        refine (hashSum_any _ ht6 hb (bs s) (bs_lt s) h6 (by rw [bs_length]; omega)).mono ?_
        rintro e w7 ⟨rfl, b7⟩
        have ht7 := ht6.below' b7
        have h7 := h6.below b7
        have B7 := belowCall B6 b7
        clear b7 h6
        go_wp2_with fail
        refine (sum_any _ ht7 s (by omega)).mono ?_
        rintro e w8 ⟨rfl, b8⟩
        have ht8 := ht7.below' b8
        have h8 := h7.below b8
        have B8 := belowCall B7 b8
        clear b8 h7
        go_wp2_with fail
        refine (hashSum_any _ ht8 hb (bs s) (bs_lt s) h8 (by rw [bs_length]; omega)).mono ?_
        rintro e w9 ⟨rfl, b9⟩
        have ht9 := ht8.below' b9
        have h9 := h8.below b9
        have B9 := belowCall B8 b9
        clear b9 h8
        go_wp2_with fail
        refine (sum_any _ ht9 s (by omega)).mono ?_
        rintro e w10 ⟨rfl, b10⟩
        have ht10 := ht9.below' b10
        have h10 := h9.below b10
        have B10 := belowCall B9 b10
        clear b10 h9
        go_wp2_with fail
        refine (len_any _ hb _ h10).mono ?_
        rintro e w11 ⟨rfl, rfl⟩
        rw [bs_length]
        go_wp2_with fail
        refine (hex_any s (by omega) _).mono ?_
        rintro e w12 ⟨rfl, b12⟩
        have B12 := belowCall B10 b12
        clear b12
        have hbb : bs (ofBs (Sha.hex (bs s))) = Sha.hex (bs s) := bs_ofBs _ (hex_lt _ (bs_lt s))
        go_wp2_with fail
        refine (unhex_yes _ (by rw [ofBs_size, hex_length, bs_length]; omega) (by rw [hbb]; exact Sha.isHex_hex _ (bs_lt s)) _).mono ?_
        rintro e w13 ⟨rfl, b13⟩
        have B13 := belowCall B12 b13
        rw [hbb, Sha.unhex_hex _ (bs_lt s), ofBs_bs]
        clear b13 hbb
        go_wp2_with fail
        by_cases hh : Sha.isHex (bs s)
        · refine (unhex_yes s (by omega) hh _).mono ?_
          rintro e w14 ⟨rfl, b14⟩
          have B14 := belowCall B13 b14
          clear b14
          have hul : (Sha.unhex (bs s)).length ≤ s.size := by unfold Sha.unhex; rw [Sha.unhexTo_length, bs_length]; omega
          go_wp2_with fail
          refine (hex_any _ (by rw [ofBs_size]; omega) _).mono ?_
          rintro e w15 ⟨rfl, b15⟩
          have B15 := belowCall B14 b15
          rw [bs_ofBs _ (Sha.unhex_lt _ hh), Sha.hex_unhex _ hh, ofBs_bs]
          clear b15
          go_wp2_with fail
          go_light
          go_ret
          exact ⟨rfl, B15⟩
        · refine (unhex_no s (by omega) hh _).mono ?_
          rintro e w14 ⟨rfl, b14⟩
          have B14 := belowCall B13 b14
          clear b14
          go_wp2_with fail
          go_light
          go_ret
          exact ⟨rfl, B14⟩
end Go.Proofs.YtpddjbiajagkaaaDoor
