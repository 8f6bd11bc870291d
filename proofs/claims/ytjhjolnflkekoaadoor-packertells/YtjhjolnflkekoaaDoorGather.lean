/- The contracts of mayNot, the library's search for a chunk that may not be, and Gather. -/
import Derived.Test.YtjhjolnflkekoaaDoorPacked
import Derived.Test.YtjhjolnflkekoaaDoorOnce
namespace Go.Proofs.YtjhjolnflkekoaaDoor
open Go.RowKit Go.Maps
open Pk
set_option linter.unusedVariables false
theorem mc_iff (s : ByteArray) : mcB s = true ↔ 1 ≤ s.size ∧ s.size ≤ 16384 := by unfold mcB; simp
theorem may_one' (s : ByteArray) : mayB [s] = mcB s := by
  cases h : mcB s with
  | true =>
    have h1 := (mc_iff s).1 h
    exact mayB_yes (Gt.may_of (by simp) (fun x hx => by rw [List.mem_singleton] at hx; subst hx; exact h1) (by simp) (.inl rfl))
  | false =>
    refine mayB_no fun hm => ?_
    have h1 := hm.each (bs s) (by simp)
    rw [bs_length] at h1
    rw [(mc_iff s).2 h1] at h; cases h
theorem mayNot_any (s : ByteArray) (hs : s.size ≤ 100000000) (w : World) : Calls Tryd.prog 17 #[.string s] w fun e w' => e = .returned (.bool (!mcB s)) ∧ Below w.heap.size w w' := by
  have hx : Hid (Tx (w.alloc (.cells #[.string s] 9)) (some ⟨w.heap.size, 0, none⟩) [s]) := hid fun j hj => by
    obtain rfl : j = 0 := by simpa using hj
    refine ⟨w.heap.size, 0, rfl, by simp, ?_⟩
    simp
  have ht : tot [s] ≤ 100000000 := by rw [tot_one]; exact hs
  have C := fun W (h : Tx W (some ⟨w.heap.size, 0, none⟩) [s]) => may_any [s] _ 1 W h (by simp) ht
  rw [may_one'] at C
  have hb : Below w.heap.size w (w.alloc (.cells #[.string s] 9)) := (Below.refl _ _).alloc (Nat.le_refl _) _
  clear ht hs
  go_enter Tryd.func17, Tryd.ntmps17
  go_wp2_with fail
  refine (C _ hx.out).mono ?_
  rintro e w1 ⟨rfl, b1⟩
  have B1 := hid (hb.trans (b1.mono hb.size))
  clear b1 hb hx C
  go_wp2_with fail
  go_ret
  exact ⟨rfl, B1.out⟩
/-- is one among them that may not be? -/
def badB (c : List ByteArray) : Bool := c.any fun s => !mcB s
theorem bad_no {c : List ByteArray} (h : badB c = false) : Gt.Cks c := fun x hx => by
  unfold badB at h
  rw [List.any_eq_false] at h
  have := h x hx
  exact (mc_iff x).1 (by simpa using this)
theorem bad_yes {c : List ByteArray} (h : badB c = true) : ¬ Gt.Cks c := fun hc => by
  unfold badB at h
  obtain ⟨x, hx, h1⟩ := List.any_eq_true.1 h
  have := (mc_iff x).2 (hc x hx)
  rw [this] at h1; cases h1
theorem bad_take {c : List ByteArray} {k : Nat} (h : k < c.length) : badB (c.take (k + 1)) = (badB (c.take k) || !mcB (c.getD k ⟨#[]⟩)) := by
  unfold badB; rw [take_next c k h, List.any_append]; simp
theorem bad_some {c : List ByteArray} {k : Nat} (h : k < c.length) (hb : mcB (c.getD k ⟨#[]⟩) = false) : badB c = true := by
  unfold badB; exact List.any_eq_true.2 ⟨_, getD_mem h, by rw [hb]; rfl⟩
set_option maxHeartbeats 2000000 in
theorem index_any (c : List ByteArray) (A : Option Addr) (cap : Nat) (w : World) (h : Tx w A c) (hc : c.length ≤ 100000) (hct : tot c ≤ 100000000) :
    Calls Tryd.prog 27 #[.slice A c.length cap, .func (.func 17) #[] #[]] w fun e w' => ∃ i : Int, e = .returned (.int .i64 i) ∧ decide (0 ≤ i) = badB c ∧ Below w.heap.size w w' := by
  obtain ⟨n, hn⟩ : ∃ n, n = c.length := ⟨_, rfl⟩
  have HN := hid hn
  have HL := hid h
  have HCT := hid hct
  rw [← hn] at hc ⊢
  clear hn h hct
  go_enter Tryd.func27, Tryd.ntmps27
  go_wp2_with fail
  go_loopw [5, 8] (fun _ v8 wr => ∃ k : Nat, k ≤ n ∧ v8 = .int .i64 (k : Int) ∧ Hid (badB (c.take k) = false) ∧ Hid (Below w.heap.size w wr)) (fun _ v8 _ => n - (intOf v8).toNat)
  case atStart => exact ⟨0, Nat.zero_le _, rfl, rfl, Below.refl _ _⟩
  case round =>
    obtain ⟨k, hk, rfl, HBad, HB⟩ := hrel
    by_cases hlt : k < n
    · have hkc : k < c.length := by rw [← HN.out]; exact hlt
      obtain ⟨gc, oc, rfl, hgc, cc⟩ := tx_cell HL.out HB.out hkc
      have hsz : (c.getD k ⟨#[]⟩).size ≤ 100000000 := by have := tot_le (getD_mem hkc); have := HCT.out; omega
      have C := fun W => mayNot_any (c.getD k ⟨#[]⟩) hsz W
      have HT := hid (bad_take hkc)
      have HS := hid (fun hb => bad_some hkc hb)
      generalize c.getD k ⟨#[]⟩ = s at *
      have i1 : (k : Int) < (n : Int) := by omega
      have i0 : (0 : Int) ≤ (k : Int) := by omega
      have wk : IntKind.i64.wrap ((k : Int) + 1) = ((k + 1 : Nat) : Int) := by rw [IntKind.wrap_i64]; omega
      clear hsz
      cases hm : mcB s with
      | true =>
        rw [hm] at C HT
        have HT2 : Hid (badB (c.take (k + 1)) = false) := hid (by rw [HT.out, HBad.out]; rfl)
        clear hm HS HT
        go_wp2_with fail
        refine (C _).mono ?_
        rintro e w1 ⟨rfl, b1⟩
        have HB2 := hid (HB.out.trans (b1.mono HB.out.size))
        clear b1 C
        go_wp2_with fail
        go_roundw
        case rel => exact ⟨k + 1, by omega, by rfl, HT2, HB2⟩
        case measure => first | (simp [intOf]; done) | (simp [intOf]; omega)
      | false =>
        rw [hm] at C
        have HS2 := hid (HS.out hm)
        clear hm HS HT
        go_wp2_with fail
        refine (C _).mono ?_
        rintro e w1 ⟨rfl, b1⟩
        have HB2 := hid (HB.out.trans (b1.mono HB.out.size))
        clear b1 C
        go_wp2_with fail
        go_ret
        exact ⟨_, rfl, by rw [HS2.out]; simp, HB2.out⟩
    · obtain rfl : k = n := by omega
      have i1 : ¬ ((k : Int) < (k : Int)) := by omega
      have HF : Hid (badB c = false) := hid (by
        have := HBad.out
        rwa [List.take_of_length_le (by rw [← HN.out]; exact Nat.le_refl _)] at this)
      go_wp2_with fail
      go_ret
      exact ⟨_, rfl, by rw [HF.out]; rfl, HB.out⟩
theorem contains_any (c : List ByteArray) (A : Option Addr) (cap : Nat) (w : World) (h : Tx w A c) (hc : c.length ≤ 100000) (hct : tot c ≤ 100000000) :
    Calls Tryd.prog 16 #[.slice A c.length cap, .func (.func 17) #[] #[]] w fun e w' => e = .returned (.bool (badB c)) ∧ Below w.heap.size w w' := by
  have C := index_any c A cap w h hc hct
  generalize c.length = n at *
  clear h hct
  go_enter Tryd.func16, Tryd.ntmps16
  go_wp2_with fail
  refine C.mono ?_
  rintro e w1 ⟨i, rfl, hi, b1⟩
  clear C
  go_wp2_with fail
  go_ret
  exact ⟨by rw [← hi]; rfl, b1⟩
theorem firsts_sub : ∀ (l s : List ByteArray), (Gt.firsts s l).Sublist l
  | [], s => by simp [Gt.firsts]
  | x :: r, s => by
    by_cases h : x ∈ s
    · rw [Gt.firsts_met h]; exact (firsts_sub r s).cons x
    · rw [Gt.firsts_new h]; exact (firsts_sub r _).cons_cons x
theorem tot_sub {a b : List ByteArray} (h : a.Sublist b) : tot a ≤ tot b := by
  induction h with
  | slnil => exact Nat.le_refl _
  | cons x _ ih => rw [tot_cons]; omega
  | cons_cons x _ ih => rw [tot_cons, tot_cons]; omega
set_option maxHeartbeats 2000000 in
theorem gather_yes (c : List ByteArray) (A : Option Addr) (cap : Nat) (w : World) (ht : S.Tabs w) (h : Tx w A c) (hc : c.length ≤ 100000) (hct : tot c ≤ 100000000) (hb : badB c = false) :
    Calls Tryd.prog 8 #[.slice A c.length cap] w fun e w' => ∃ v L, e = .returned (.tuple #[v, .int .i64 0]) ∧ Pks w' w.heap.size v L ∧ L.map (·.1) = Gt.packs c ∧ Below w.heap.size w w' := by
  have C1 := contains_any c A cap w h hc hct
  rw [hb] at C1
  have C2 := fun W (h : Tx W A c) => once_any c A cap W h hc hct
  have hfs := firsts_sub c []
  have hfl : (Gt.firsts [] c).length ≤ c.length := hfs.length_le
  have hft := tot_sub hfs
  have HC3 : Hid (∀ (W : World) (B : Option Addr) (cb : Nat), S.Tabs W → Tx W B (Gt.firsts [] c) → _) := hid fun W B cb hT hX => packed_any (Gt.firsts [] c) B cb W hT hX (by omega) (by omega) (Gt.packs_may (bad_no hb))
  change Hid (∀ (W : World) (B : Option Addr) (cb : Nat), S.Tabs W → Tx W B (Gt.firsts [] c) → Calls _ _ _ _ fun e w' => ∃ (v : Value) (L : List (List ByteArray × Nat × Nat)), _ ∧ _ ∧ L.map (·.1) = Gt.packs c ∧ _) at HC3
  have HL := hid h
  have HT := hid ht
  generalize c.length = n at *
  clear h ht hct hb hfs hft hfl
  go_enter Tryd.func8, Tryd.ntmps8
  go_wp2_with fail
  refine C1.mono ?_
  rintro e w1 ⟨rfl, b1⟩
  have B1 := hid b1
  have HL1 := hid (HL.out.below b1)
  clear b1 C1
  go_wp2_with fail
  refine (C2 _ HL1.out).mono ?_
  rintro e w2 ⟨v2, rfl, hr2, b2⟩
  obtain ⟨A2, cap2, ev2, hl2, hx2⟩ := own_tx hr2
  subst ev2
  have B2 := hid (B1.out.trans (b2.mono B1.out.size))
  have HX2 := hid hx2
  clear b2 C2 hr2 hl2 hx2
  go_wp2_with fail
  refine (HC3.out _ _ _ (tabs_below HT.out B2.out (Nat.le_refl _)) HX2.out).mono ?_
  rintro e w3 ⟨v3, L, rfl, hp, hm, b3⟩
  obtain ⟨A3, cap3, ev3⟩ := hp.slice
  subst ev3
  have B3 := hid (B2.out.trans (b3.mono B2.out.size))
  have HP := hid (hp.mono B2.out.size)
  have HM := hid hm
  clear b3 HC3 hp hm
  go_wp2_with fail
  exact bodyPost_ret (v := .tuple #[.slice A3 L.length cap3, .int .i64 0]) (by simp [results, Tryd.results8, go_sem]) rfl ⟨_, L, rfl, HP.out, HM.out, B3.out⟩
theorem gather_no (c : List ByteArray) (A : Option Addr) (cap : Nat) (w : World) (h : Tx w A c) (hc : c.length ≤ 100000) (hct : tot c ≤ 100000000) (hb : badB c = true) :
    Calls Tryd.prog 8 #[.slice A c.length cap] w fun e w' => e = .returned (.tuple #[.slice none 0 0, .int .i64 4]) ∧ Below w.heap.size w w' := by
  have C1 := contains_any c A cap w h hc hct
  rw [hb] at C1
  generalize c.length = n at *
  clear h hct hb
  go_enter Tryd.func8, Tryd.ntmps8
  go_wp2_with fail
  refine C1.mono ?_
  rintro e w1 ⟨rfl, b1⟩
  clear C1
  go_wp2_with fail
  exact bodyPost_ret (v := .tuple #[.slice none 0 0, .int .i64 4]) (by simp [results, Tryd.results8, go_sem]) rfl ⟨rfl, b1⟩
end Go.Proofs.YtjhjolnflkekoaaDoor
