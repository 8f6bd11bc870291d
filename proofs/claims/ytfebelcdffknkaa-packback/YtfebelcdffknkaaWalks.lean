/- The walks of PackMakes and PackReads. -/
import Derived.Test.YtfebelcdffknkaaRefR
import Derived.Test.YtfebelcdffknkaaRead
import Derived.Test.YtfebelcdffknkaaLaws
import Derived.BigQuiet
import Derived.Deep.QuietTactic
namespace Go.Proofs.Ytfebelcdffknkaa
open Go.RowKit Go.Maps
open Pk
set_option linter.unusedVariables false
theorem str_eq (a : ByteArray) : (a.toList == a.toList) = true := by simp
theorem lgB_no {l : List ByteArray} (h : lgB l = false) : tot l < 60000 ∧ l.length ≤ 600 := by
  unfold lgB at h
  have := of_decide_eq_false h
  omega
set_option maxRecDepth 20000 in
set_option maxHeartbeats 4000000 in
theorem makes_walk (l : List ByteArray) (A : Option Addr) (cap : Nat) (w : World) (h : Tx w A l) (hl : l.length ≤ 9223372036854775807) (hs : ∀ s ∈ l, s.size ≤ 9223372036850000000) :
    Calls Try.prog 4 #[.slice A l.length cap] w fun e w' => e = .returned (.bool true) ∧ Below w.heap.size w w' := by
  have C0 := large_any l A cap w h hl hs
  cases hg : lgB l with
  | true =>
    rw [hg] at C0
    clear hs h hg
    generalize l.length = n at *
    go_enter Try.func4, Try.ntmps4
    go_wp2_with fail
    refine C0.mono ?_
    rintro e w1 ⟨rfl, b1⟩
    go_wp2_with fail
    go_ret
    exact ⟨rfl, b1⟩
  | false =>
    rw [hg] at C0
    obtain ⟨h1, h2⟩ := lgB_no hg
    have HL := hid h
    have CP := fun W (h : Tx W A l) => may_any l A cap W h (by omega) (by omega)
    have CR := fun W (h : Tx W A l) => refMay_any l A cap W h (by omega) (by omega)
    by_cases hM : May (l.map bs)
    · have C1 := fun W (h : Tx W A l) => make_yes l A cap W h hM
      have C2 := fun W (h : Tx W A l) => refMake_yes l A cap W h hM
      have CI := fun W B1 B2 c1 c2 (h1 : Is W B1 (at' (l.map bs))) (h2 : Is W B2 (at' (l.map bs))) => ints_any (at' (l.map bs)) B1 B2 c1 c2 W h1 h2 (by rw [at_len]; omega)
      rw [at_len] at CI
      have hq := str_eq (ofBs (blob (l.map bs)))
      generalize ofBs (blob (l.map bs)) = b at *
      generalize at' (l.map bs) = z at *
      generalize mayB l = m at *
      generalize l.length = n at *
      clear hs h hg hM h1 h2 hl
      go_enter Try.func4, Try.ntmps4
      go_wp2_with fail
      refine C0.mono ?_
      rintro e w1 ⟨rfl, b1⟩
      have B1 := hid b1
      clear b1 C0
      go_wp2_with fail
      refine (C1 _ (HL.out.below B1.out)).mono ?_
      rintro e w2 ⟨g, rfl, i2, b2⟩
      have B2 := hid (B1.out.trans (b2.mono B1.out.size))
      have I2 := hid i2
      clear b2 i2 C1
      go_wp2_with fail
      refine (C2 _ (HL.out.below B2.out)).mono ?_
      rintro e w3 ⟨B, cb, rfl, i3, b3⟩
      have B3 := hid (B2.out.trans (b3.mono B2.out.size))
      have I3 := hid i3
      have I2' := hid (I2.out.below b3)
      clear b3 i3 C2
      go_wp2_with fail
      refine (CI _ _ _ _ _ I2'.out I3.out).mono ?_
      rintro e w4 ⟨rfl, b4⟩
      have B4 := hid (B3.out.trans (b4.mono B3.out.size))
      clear b4 CI
      go_wp2_with fail
      refine (CP _ (HL.out.below B4.out)).mono ?_
      rintro e w5 ⟨rfl, b5⟩
      have B5 := hid (B4.out.trans (b5.mono B4.out.size))
      clear b5 CP
      go_wp2_with fail
      refine (CR _ (HL.out.below B5.out)).mono ?_
      rintro e w6 ⟨rfl, b6⟩
      have B6 := hid (B5.out.trans (b6.mono B5.out.size))
      clear b6 CR
      cases m
      · go_wp2_with fail
        go_ret
        exact ⟨rfl, B6.out⟩
      · go_wp2_with fail
        go_ret
        exact ⟨rfl, B6.out⟩
    · have C1 := fun W (h : Tx W A l) => make_no l A cap W h (by omega) (by omega) hM
      have C2 := fun W (h : Tx W A l) => refMake_no l A cap W h (by omega) (by omega) hM
      have CI := fun W => ints_any [] none none 0 0 W (Is.nil _ _) (Is.nil _ _) (by simp)
      simp only [List.length_nil] at CI
      generalize mayB l = m at *
      generalize l.length = n at *
      clear hs h hg hM h1 h2 hl
      go_enter Try.func4, Try.ntmps4
      go_wp2_with fail
      refine C0.mono ?_
      rintro e w1 ⟨rfl, b1⟩
      have B1 := hid b1
      clear b1 C0
      go_wp2_with fail
      refine (C1 _ (HL.out.below B1.out)).mono ?_
      rintro e w2 ⟨rfl, b2⟩
      have B2 := hid (B1.out.trans (b2.mono B1.out.size))
      clear b2 C1
      go_wp2_with fail
      refine (C2 _ (HL.out.below B2.out)).mono ?_
      rintro e w3 ⟨rfl, b3⟩
      have B3 := hid (B2.out.trans (b3.mono B2.out.size))
      clear b3 C2
      go_wp2_with fail
      refine (CI _).mono ?_
      rintro e w4 ⟨rfl, b4⟩
      have B4 := hid (B3.out.trans (b4.mono B3.out.size))
      clear b4 CI
      go_wp2_with fail
      refine (CP _ (HL.out.below B4.out)).mono ?_
      rintro e w5 ⟨rfl, b5⟩
      have B5 := hid (B4.out.trans (b5.mono B4.out.size))
      clear b5 CP
      go_wp2_with fail
      refine (CR _ (HL.out.below B5.out)).mono ?_
      rintro e w6 ⟨rfl, b6⟩
      have B6 := hid (B5.out.trans (b6.mono B5.out.size))
      clear b6 CR
      cases m
      · go_wp2_with fail
        go_ret
        exact ⟨rfl, B6.out⟩
      · go_wp2_with fail
        go_ret
        exact ⟨rfl, B6.out⟩
theorem map_bs_inj {l l' : List ByteArray} (h : l.map bs = l'.map bs) : l = l' := by
  induction l generalizing l' with
  | nil =>
    cases l' with
    | nil => rfl
    | cons y r => simp at h
  | cons x r ih =>
    cases l' with
    | nil => simp at h
    | cons y r' =>
      rw [List.map_cons, List.map_cons] at h
      obtain ⟨h1, h2⟩ := List.cons.inj h
      rw [bs_inj h1, ih h2]
set_option maxRecDepth 20000 in
set_option maxHeartbeats 8000000 in
/-- blobs that are gone through -/
theorem reads_in (b : ByteArray) (hb : b.size ≤ 60000) (h600 : 5 < b.size → (bs b).getD 4 0 * 256 + (bs b).getD (4 + 1) 0 ≤ 600) (w : World) :
    Calls Try.prog 5 #[.string b] w fun e w' => e = .returned (.bool true) ∧ Below w.heap.size w w' := by
  have d1 : decide ((60000 : Int) < (b.size : Int)) = false := by simp; omega
  by_cases hE : ∃ c, May c ∧ bs b = blob c
  · obtain ⟨c, hM, hc⟩ := hE
    have hlc := told_blob hM hc
    have C1 := fun W => read_yes b (by omega) c hM hc W
    have hm := hM.most
    have CL : (toldS b).length = c.length := by rw [← hlc, List.length_map]
    have CT := fun W A B ca cb (h1 : Tx W A (toldS b)) (h2 : Tx W B (toldS b)) => texts_any (toldS b) A B ca cb W h1 h2 (by omega)
    have hat : (at' c).length = (toldS b).length := by rw [← hlc, at_len]
    have CI := fun W A B ca cb (h1 : Is W A (at' c)) (h2 : Is W B (at' c)) => ints_any (at' c) A B ca cb W h1 h2 (by omega)
    rw [hat] at CI
    have HLC := hid hlc
    have HM := hid hM
    have HC := hid hc
    generalize toldS b = L at *
    obtain ⟨n, hn⟩ : ∃ n, n = L.length := ⟨_, rfl⟩
    have HLL := hid hn.symm
    rw [← hn] at C1 CT CI
    clear hlc hM hc hm hat hn
    by_cases h5 : 5 < b.size
    · have d2 : decide ((5 : Int) < (b.size : Int)) = true := by simp; omega
      have ix4 := run_index b 4 (by omega) 4 rfl (by omega)
      have ix5 := run_index b 5 (by omega) 5 rfl (by omega)
      have l4 := getD_lt b 4
      have l5 := getD_lt b 5
      have hn6 : 6 ≤ b.size → two (bs b) 4 ≤ 600 := fun _ => by rw [two_eq]; exact h600 h5
      have h6 := h600 h5
      generalize (bs b).getD 4 0 = x4 at *
      generalize (bs b).getD (4 + 1) 0 = x5 at *
      have d3 : decide ((600 : Int) < (x4 : Int) * 256 + (x5 : Int)) = false := by simp; omega
      clear h600 h6
      go_enter Try.func5, Try.ntmps5
      go_wp2_with fail
      go_quiet (fail)
      clear ix4 ix5 d3 l4 l5
      clear CL
      go_wp2_with fail
      refine (C1 _).mono ?_
      rintro e w1 ⟨g, g', rfl, t1, i1, b1⟩
      have B1 := hid ((below_draws (Below.refl w.heap.size w) _).trans (b1.mono (Nat.le_refl _)))
      have T1 := hid t1
      have I1 := hid i1
      clear b1 t1 i1 C1
      go_wp2_with fail
      refine refRead_all b hb hn6 _ _ (fun l A cap B cb w2 m2 e2 t2 i2 b2 => ?_) (fun w2 hno b2 => absurd HC.out (hno _ HM.out))
      have hcl : l.map bs = c := blob_inj m2 HM.out (by rw [← e2]; exact HC.out)
      obtain rfl : l = L := map_bs_inj (by rw [hcl, HLC.out])
      rw [hcl] at i2
      have hlen := HLL.out
      rw [hlen]
      have B2 := hid (B1.out.trans (b2.mono B1.out.size))
      have T1' := hid (T1.out.below b2)
      have I1' := hid (I1.out.below b2)
      have T2 := hid t2
      have I2 := hid i2
      clear b2 t2 i2 m2 e2 hcl T1 I1 hlen
      go_wp2_with fail
      refine (CT _ _ _ _ _ T1'.out T2.out).mono ?_
      rintro e w3 ⟨rfl, b3⟩
      have B3 := hid (B2.out.trans (b3.mono B2.out.size))
      have I1'' := hid (I1'.out.below b3)
      have I2'' := hid (I2.out.below b3)
      clear b3 CT
      go_wp2_with fail
      refine (CI _ _ _ _ _ I1''.out I2''.out).mono ?_
      rintro e w4 ⟨rfl, b4⟩
      have B4 := hid (B3.out.trans (b4.mono B3.out.size))
      clear b4 CI
      go_wp2_with fail
      go_ret
      exact ⟨rfl, B4.out⟩
    · have d2 : decide ((5 : Int) < (b.size : Int)) = false := by simp; omega
      have hn6 : 6 ≤ b.size → two (bs b) 4 ≤ 600 := fun h => absurd h (by omega)
      clear h600
      go_enter Try.func5, Try.ntmps5
      go_wp2_with fail
      go_quiet (fail)
      clear CL
      go_wp2_with fail
      refine (C1 _).mono ?_
      rintro e w1 ⟨g, g', rfl, t1, i1, b1⟩
      have B1 := hid ((below_draws (Below.refl w.heap.size w) _).trans (b1.mono (Nat.le_refl _)))
      have T1 := hid t1
      have I1 := hid i1
      clear b1 t1 i1 C1
      go_wp2_with fail
      refine refRead_all b hb hn6 _ _ (fun l A cap B cb w2 m2 e2 t2 i2 b2 => ?_) (fun w2 hno b2 => absurd HC.out (hno _ HM.out))
      have hcl : l.map bs = c := blob_inj m2 HM.out (by rw [← e2]; exact HC.out)
      obtain rfl : l = L := map_bs_inj (by rw [hcl, HLC.out])
      rw [hcl] at i2
      have hlen := HLL.out
      rw [hlen]
      have B2 := hid (B1.out.trans (b2.mono B1.out.size))
      have T1' := hid (T1.out.below b2)
      have I1' := hid (I1.out.below b2)
      have T2 := hid t2
      have I2 := hid i2
      clear b2 t2 i2 m2 e2 hcl T1 I1 hlen
      go_wp2_with fail
      refine (CT _ _ _ _ _ T1'.out T2.out).mono ?_
      rintro e w3 ⟨rfl, b3⟩
      have B3 := hid (B2.out.trans (b3.mono B2.out.size))
      have I1'' := hid (I1'.out.below b3)
      have I2'' := hid (I2.out.below b3)
      clear b3 CT
      go_wp2_with fail
      refine (CI _ _ _ _ _ I1''.out I2''.out).mono ?_
      rintro e w4 ⟨rfl, b4⟩
      have B4 := hid (B3.out.trans (b4.mono B3.out.size))
      clear b4 CI
      go_wp2_with fail
      go_ret
      exact ⟨rfl, B4.out⟩
  · have C1 := fun W => read_no b (by omega) (fun c hc e => hE ⟨c, hc, e⟩) W
    have CT := fun W => texts_any [] none none 0 0 W (Tx.nil _ _) (Tx.nil _ _) (by simp)
    have CI := fun W => ints_any [] none none 0 0 W (Is.nil _ _) (Is.nil _ _) (by simp)
    simp only [List.length_nil] at CT CI
    have HE := hid hE
    clear hE
    by_cases h5 : 5 < b.size
    · have d2 : decide ((5 : Int) < (b.size : Int)) = true := by simp; omega
      have ix4 := run_index b 4 (by omega) 4 rfl (by omega)
      have ix5 := run_index b 5 (by omega) 5 rfl (by omega)
      have l4 := getD_lt b 4
      have l5 := getD_lt b 5
      have hn6 : 6 ≤ b.size → two (bs b) 4 ≤ 600 := fun _ => by rw [two_eq]; exact h600 h5
      have h6 := h600 h5
      generalize (bs b).getD 4 0 = x4 at *
      generalize (bs b).getD (4 + 1) 0 = x5 at *
      have d3 : decide ((600 : Int) < (x4 : Int) * 256 + (x5 : Int)) = false := by simp; omega
      clear h600 h6
      go_enter Try.func5, Try.ntmps5
      go_wp2_with fail
      go_quiet (fail)
      clear ix4 ix5 d3 l4 l5
      go_wp2_with fail
      refine (C1 _).mono ?_
      rintro e w1 ⟨rfl, b1⟩
      have B1 := hid ((below_draws (Below.refl w.heap.size w) _).trans (b1.mono (Nat.le_refl _)))
      clear b1 C1
      go_wp2_with fail
      refine refRead_all b hb hn6 _ _ (fun l A cap B cb w2 m2 e2 t2 i2 b2 => absurd ⟨_, m2, e2⟩ HE.out) (fun w2 hno b2 => ?_)
      have B2 := hid (B1.out.trans (b2.mono B1.out.size))
      clear b2 hno
      go_wp2_with fail
      refine (CT _).mono ?_
      rintro e w3 ⟨rfl, b3⟩
      have B3 := hid (B2.out.trans (b3.mono B2.out.size))
      clear b3 CT
      go_wp2_with fail
      refine (CI _).mono ?_
      rintro e w4 ⟨rfl, b4⟩
      have B4 := hid (B3.out.trans (b4.mono B3.out.size))
      clear b4 CI
      go_wp2_with fail
      go_ret
      exact ⟨rfl, B4.out⟩
    · have d2 : decide ((5 : Int) < (b.size : Int)) = false := by simp; omega
      have hn6 : 6 ≤ b.size → two (bs b) 4 ≤ 600 := fun h => absurd h (by omega)
      clear h600
      go_enter Try.func5, Try.ntmps5
      go_wp2_with fail
      go_quiet (fail)
      go_wp2_with fail
      refine (C1 _).mono ?_
      rintro e w1 ⟨rfl, b1⟩
      have B1 := hid ((below_draws (Below.refl w.heap.size w) _).trans (b1.mono (Nat.le_refl _)))
      clear b1 C1
      go_wp2_with fail
      refine refRead_all b hb hn6 _ _ (fun l A cap B cb w2 m2 e2 t2 i2 b2 => absurd ⟨_, m2, e2⟩ HE.out) (fun w2 hno b2 => ?_)
      have B2 := hid (B1.out.trans (b2.mono B1.out.size))
      clear b2 hno
      go_wp2_with fail
      refine (CT _).mono ?_
      rintro e w3 ⟨rfl, b3⟩
      have B3 := hid (B2.out.trans (b3.mono B2.out.size))
      clear b3 CT
      go_wp2_with fail
      refine (CI _).mono ?_
      rintro e w4 ⟨rfl, b4⟩
      have B4 := hid (B3.out.trans (b4.mono B3.out.size))
      clear b4 CI
      go_wp2_with fail
      go_ret
      exact ⟨rfl, B4.out⟩
set_option maxRecDepth 20000 in
set_option maxHeartbeats 4000000 in
theorem reads_walk (b : ByteArray) (hs : b.size ≤ 9223372036854775807) (w : World) : Calls Try.prog 5 #[.string b] w fun e w' => e = .returned (.bool true) ∧ Below w.heap.size w w' := by
  by_cases h1 : b.size ≤ 60000
  · by_cases h2 : 5 < b.size → (bs b).getD 4 0 * 256 + (bs b).getD (4 + 1) 0 ≤ 600
    · exact reads_in b h1 h2 w
    · have d1 : decide ((60000 : Int) < (b.size : Int)) = false := by simp; omega
      have h5 : 5 < b.size := Classical.byContradiction fun h => h2 (fun h' => absurd h' h)
      have h6 : ¬ (bs b).getD 4 0 * 256 + (bs b).getD (4 + 1) 0 ≤ 600 := fun h => h2 (fun _ => h)
      have d2 : decide ((5 : Int) < (b.size : Int)) = true := by simp; omega
      have ix4 := run_index b 4 (by omega) 4 rfl (by omega)
      have ix5 := run_index b 5 (by omega) 5 rfl (by omega)
      have l4 := getD_lt b 4
      have l5 := getD_lt b 5
      generalize (bs b).getD 4 0 = x4 at *
      generalize (bs b).getD (4 + 1) 0 = x5 at *
      have d3 : decide ((600 : Int) < (x4 : Int) * 256 + (x5 : Int)) = true := by simp; omega
      clear h2 h6
      go_enter Try.func5, Try.ntmps5
      go_wp2_with fail
      go_quiet (fail)
      go_wp2_with fail
      go_ret
      exact ⟨rfl, below_draws (Below.refl w.heap.size w) _⟩
  · have d1 : decide ((60000 : Int) < (b.size : Int)) = true := by simp; omega
    clear h1
    go_enter Try.func5, Try.ntmps5
    go_wp2_with fail
    go_quiet (fail)
    go_wp2_with fail
    go_ret
    exact ⟨rfl, below_draws (Below.refl w.heap.size w) _⟩
end Go.Proofs.Ytfebelcdffknkaa
