/- The contracts of the document's Steps and May. -/
import Derived.Test.YtnhekngmgjnodaaDoorGrow
import Derived.Test.YtnhekngmgjnodaaDoorMay
namespace Go.Proofs.YtnhekngmgjnodaaDoor
open Go.RowKit
open Pa
set_option linter.unusedVariables false
/-- what stands between the slashes of the first k bytes -/
def spP (s : ByteArray) (k : Nat) : List ByteArray := (spl ((bs s).take k)).map ofBs
theorem spP_zero (s : ByteArray) : spP s 0 = [⟨#[]⟩] := rfl
theorem spP_all (s : ByteArray) : spP s s.size = splB s := by unfold spP splB; rw [← bs_length, List.take_length]
theorem take_byte (s : ByteArray) (k : Nat) (h : k < s.size) : (bs s).take (k + 1) = (bs s).take k ++ [s[k].toNat] := by
  have := take_next (bs s) 0 k (by rw [bs_length]; exact h)
  rwa [bs_get s k h] at this
theorem spP_slash (s : ByteArray) (k : Nat) (h : k < s.size) (h47 : s[k].toNat = 47) : spP s (k + 1) = spP s k ++ [⟨#[]⟩] := by
  unfold spP
  rw [take_byte s k h, h47, spl_snoc_slash]
  simp; rfl
theorem ext_one (s : ByteArray) (k : Nat) (h : k < s.size) : s.extract k (k + 1) = ofBs [s[k].toNat] := by
  rw [← ofBs_bs (s.extract k (k + 1)), bs_extract, take_byte s k h]
  congr 1
  exact List.drop_left' (by rw [List.length_take, bs_length]; omega)
theorem spl_len_each : ∀ (p : List Nat), ∀ x ∈ spl p, x.length ≤ p.length := by
  intro p
  induction p with
  | nil => intro x hx; simp [spl] at hx; subst hx; simp
  | cons y r ih =>
    intro x hx
    by_cases hy : y = 47
    · subst hy
      rw [spl_slash] at hx
      rcases List.mem_cons.1 hx with rfl | hx
      · simp
      · have := ih x hx; simp; omega
    · cases e : spl r with
      | nil => exact absurd e (spl_ne r)
      | cons a t =>
        rw [spl_byte hy e] at hx
        rcases List.mem_cons.1 hx with rfl | hx
        · have := ih a (by rw [e]; simp); simp; omega
        · have := ih x (by rw [e]; simp [hx]); simp; omega
theorem spP_each (s : ByteArray) (k : Nat) : ∀ x ∈ spP s k, x.size ≤ s.size := by
  intro x hx
  unfold spP at hx
  obtain ⟨y, hy, rfl⟩ := List.mem_map.1 hx
  have := spl_len_each _ y hy
  rw [List.length_take, bs_length] at this
  rw [ofBs_size]; omega
theorem spP_byte (s : ByteArray) (k : Nat) (h : k < s.size) (h47 : s[k].toNat ≠ 47) : ∃ (I : List ByteArray) (t : ByteArray), spP s k = I ++ [t] ∧ spP s (k + 1) = I ++ [t ++ s.extract k (k + 1)] := by
  unfold spP
  rw [take_byte s k h]
  obtain ⟨i, t, e⟩ : ∃ i t, spl ((bs s).take k) = i ++ [t] := by
    have hne := spl_ne ((bs s).take k)
    exact ⟨_, _, (List.dropLast_concat_getLast hne).symm⟩
  refine ⟨i.map ofBs, ofBs t, by rw [e]; simp, ?_⟩
  rw [spl_snoc_byte h47 _ i t e, ext_one s k h]
  simp [ofBs_append]
theorem spP_len (s : ByteArray) (k : Nat) (h : k ≤ s.size) : 0 < (spP s k).length ∧ (spP s k).length ≤ k + 1 := by
  unfold spP
  rw [List.length_map]
  refine ⟨List.length_pos_iff.2 (spl_ne _), ?_⟩
  have hh : ∀ p : List Nat, (spl p).length ≤ p.length + 1 := by
    intro p
    induction p with
    | nil => simp [spl]
    | cons x r ih =>
      by_cases hx : x = 47
      · subst hx; rw [spl_slash]; simp; omega
      · cases e : spl r with
        | nil => exact absurd e (spl_ne r)
        | cons a t => rw [spl_byte hx e]; rw [e] at ih; simp at *; omega
  have := hh ((bs s).take k)
  rw [List.length_take, bs_length] at this
  omega
set_option maxRecDepth 20000 in
set_option maxHeartbeats 8000000 in
theorem refSteps_any (s : ByteArray) (hs : s.size ≤ 100000) (w : World) :
    Calls Tryd.prog 9 #[.string s] w fun e w' => ∃ v, e = .returned v ∧ w'.ownsRow w.heap.size 9 1 v (stepsB s).length ((stepsB s).map Value.string) ∧ Below w.heap.size w w' := by
  by_cases h0 : s.size = 0
  · obtain rfl := (empty_iff s).2 h0
    rw [stepsB_no h0]
    go_enter Tryd.func9, Tryd.ntmps9
    go_wp2_with fail
    go_ret
    exact ⟨_, rfl, World.ownsRow_nil _ _ _ _, Below.refl _ _⟩
  rw [stepsB_yes h0]
  have hne := toL_no h0
  have r0 : (w.alloc (.cells #[.string ⟨#[]⟩] 9)).ownsRow w.heap.size 9 1 (.slice (some ⟨w.heap.size, 0, none⟩) 1 1) 1 ((spP s 0).map Value.string) := World.ownsRow_lit w #[.string ⟨#[]⟩] 1 (Nat.le_refl _) (by decide) rfl
  have R0 := hid r0
  have HB0 := hid ((Below.refl w.heap.size w).alloc (Nat.le_refl _) (.cells #[.string ⟨#[]⟩] 9))
  clear r0
  go_enter Tryd.func9, Tryd.ntmps9
  go_wp2_with fail
  go_loopw [3, 4] (fun v3 v4 wr => ∃ (k n : Nat) (A : Option Addr) (c : Nat), k ≤ s.size ∧ v4 = .int .i64 (k : Int) ∧ v3 = .slice A n c ∧ Hid (n = (spP s k).length) ∧ Hid (wr.ownsRow w.heap.size 9 1 (.slice A n c) n ((spP s k).map Value.string)) ∧ Hid (Below w.heap.size w wr)) (fun _ v4 _ => s.size - (intOf v4).toNat)
  case atStart => exact ⟨0, 1, _, _, Nat.zero_le _, rfl, rfl, hid rfl, R0, HB0⟩
  case round =>
    obtain ⟨k, n, A, c, hk, rfl, rfl, HN, HR, HB⟩ := hrel
    by_cases hlt : k < s.size
    · have x0 : s[k].toNat < 256 := s[k].toNat_lt
      have i1 : (k : Int) < (s.size : Int) := by omega
      have i0 : (0 : Int) ≤ (k : Int) := by omega
      have wk : IntKind.i64.wrap ((k : Int) + 1) = ((k + 1 : Nat) : Int) := by rw [IntKind.wrap_i64]; omega
      obtain ⟨hn0, hn1⟩ := spP_len s k hk
      rw [← HN.out] at hn0 hn1
      by_cases h47 : s[k].toNat = 47
      · have hci : ((s[k].toNat : Nat) : Int) = 47 := by omega
        have HS := hid (spP_slash s k hlt h47)
        obtain ⟨A', c', w', hrun, hown, hbl⟩ := grow_tx HR.out ⟨#[]⟩ (by omega) HB.out.size
        rw [← HS.out] at hown
        have HRun := hid hrun
        have HOwn := hid hown
        have HN2 : Hid (n + 1 = (spP s (k + 1)).length) := hid (by rw [HS.out, List.length_append, ← HN.out]; rfl)
        have HB2 := hid (HB.out.trans hbl)
        clear hrun hown hbl h47 HS
        go_wp2_with (at_builtin; go_loud (refine wpList_val rfl (rn_app25 rfl rfl rfl rfl HRun.out) ?_))
        go_roundw
        case rel => exact ⟨k + 1, n + 1, A', c', by omega, by rfl, rfl, HN2, HOwn, HB2⟩
        case measure => first | (simp [intOf]; done) | (simp [intOf]; omega)
      · have hci : ¬ ((s[k].toNat : Nat) : Int) = 47 := by omega
        obtain ⟨I, t, hI1, hI2⟩ := spP_byte s k hlt h47
        obtain ⟨A1, cap1, hv, _, _, hform⟩ := row_form HR.out
        have hv2 : A = A1 ∧ c = cap1 := by simpa using hv
        obtain ⟨rfl, rfl⟩ := hv2
        obtain ⟨g, rfl, hbg, hgs, hcell⟩ := hform (n - 1) (by omega)
        have hIl : I.length = n - 1 := by
          have := congrArg List.length hI1
          rw [← HN.out, List.length_append] at this
          simp at this; omega
        have hc : wr.cell? ⟨g, n - 1, none⟩ = some (.string t) := by
          rw [hcell, hI1, List.map_append, List.getElem?_append_right (by simp; omega)]
          simp [hIl]
        have hf := HR.out.frozenAt (n - 1)
        obtain ⟨st1, st2⟩ := HR.out.stored (n - 1) (.string (t ++ s.extract k (k + 1)))
        have hset : ((spP s k).map Value.string).set (n - 1) (.string (t ++ s.extract k (k + 1))) = (spP s (k + 1)).map Value.string := by
          rw [hI1, hI2, List.map_append, List.map_append, List.set_append_right _ _ (by simp; omega)]
          simp [hIl]
        rw [hset] at st1
        have HOwn := hid st1
        have HN2 : Hid (n = (spP s (k + 1)).length) := hid (by rw [hI2, List.length_append]; simp; omega)
        have HB2 := hid (HB.out.setCell (p := ⟨g, n - 1, none⟩) hbg (.string (t ++ s.extract k (k + 1))))
        have wn : IntKind.i64.wrap ((n : Int) - 1) = ((n - 1 : Nat) : Int) := by rw [IntKind.wrap_i64]; omega
        have j0 : (0 : Int) ≤ ((n - 1 : Nat) : Int) := by omega
        have j1 : ((n - 1 : Nat) : Int) < (n : Int) := by omega
        have j2 : (k : Int) ≤ ((k + 1 : Nat) : Int) := by omega
        have j3 : ((k + 1 : Nat) : Int) ≤ (s.size : Int) := by omega
        have j4 : (0 : Int) ≤ ((k + 1 : Nat) : Int) := by omega
        have j5 : (((k + 1 : Nat) : Int)).toNat = k + 1 := by omega
        have j6 : (((n - 1 : Nat) : Int)).toNat = n - 1 := by omega
        have htz := spP_each s k t (by rw [hI1]; simp)
        have j7 : ¬ (9223372036854775807 : Int) < (t.size : Int) + ((s.extract k (k + 1)).size : Int) := by
          have : (s.extract k (k + 1)).size ≤ s.size := by rw [ByteArray.size_extract]; omega
          omega
        have j8 : ¬ (9223372036854775807 : Int) < (t.size : Int) + (((min (k + 1) s.size - k : Nat) : Nat) : Int) := by omega
        clear st1 st2 hset hcell hform hv hI1 hI2 hIl h47
        generalize hnm : n - 1 = m at *
        clear hnm
        go_wp2_with fail
        go_region
        go_wp2_with fail
        exact ⟨⟨k + 1, n, _, c, by omega, by rfl, rfl, HN2, HOwn.out.drew, HB2.out.drew⟩, by simp [intOf]; omega⟩
    · obtain rfl : s.size = k := by omega
      have j1 : ¬ ((s.size : Int) < (s.size : Int)) := by omega
      have hl : n = (splB s).length := by rw [HN.out, spP_all]
      have hr := HR.out
      rw [spP_all] at hr
      have HR2 := hid hr
      have HL := hid hl
      clear hr hl HR
      go_wp2_with fail
      go_ret
      exact ⟨_, rfl, by rw [← HL.out]; exact HR2.out, HB.out⟩
set_option maxRecDepth 20000 in
set_option maxHeartbeats 8000000 in
theorem refMay_any (s : ByteArray) (hs : s.size ≤ 100000) (w : World) :
    Calls Tryd.prog 15 #[.string s] w fun e w' => e = .returned (.bool (mayB s)) ∧ Below w.heap.size w w' := by
  have C1 := refSteps_any s hs w
  have hse : ∀ x ∈ stepsB s, x.size ≤ 100000 := by
    intro x hx
    by_cases h0 : s.size = 0
    · rw [stepsB_no h0] at hx; cases hx
    · rw [stepsB_yes h0] at hx
      have := spl_each s x hx
      omega
  have hml : mayB s = (decide (0 < (stepsB s).length ∧ s.size ≤ 96) && allOk (stepsB s)) := by
    by_cases h0 : s.size = 0
    · rw [stepsB_no h0]
      obtain rfl := (empty_iff s).2 h0
      rfl
    · rw [stepsB_yes h0]
      have h1 : 0 < (splB s).length := by unfold splB; rw [List.length_map]; exact List.length_pos_iff.2 (spl_ne _)
      by_cases h2 : s.size ≤ 96
      · rw [mayB_is h2, decide_eq_true ⟨h1, h2⟩, Bool.true_and]
      · rw [mayB_long (by omega), decide_eq_false (by omega)]; rfl
  have hsl : (stepsB s).length ≤ 100001 := by
    by_cases h0 : s.size = 0
    · rw [stepsB_no h0]; simp
    · rw [stepsB_yes h0]; have := splB_len s; omega
  obtain ⟨r, hr⟩ : ∃ r, r = mayB s := ⟨_, rfl⟩
  have HR := hid hr
  rw [← hr]
  have HML := hid hml
  have HSE := hid hse
  clear hml hse hr
  generalize stepsB s = L at *
  go_enter Tryd.func15, Tryd.ntmps15
  go_wp2_with fail
  refine C1.mono ?_
  rintro e w1 ⟨v, rfl, hown, hb⟩
  obtain ⟨A, c, rfl, _, hT⟩ := row_tx hown
  rename_i hcap
  clear C1 hown
  obtain ⟨n, hnn⟩ : ∃ n, n = L.length := ⟨_, rfl⟩
  have HN := hid hnn
  have HT := hid hT.2
  have HB := hid hb
  rw [← hnn] at hsl ⊢
  clear hnn hT hb
  go_wp2_with fail
  go_loopw [4] (fun v4 wr => ∃ k : Nat, k ≤ n ∧ v4 = .int .i64 (k : Int) ∧ Hid (allOk (L.take k) = true) ∧ wr = w1) (fun v4 _ => n - (intOf v4).toNat)
  case atStart => exact ⟨0, Nat.zero_le _, rfl, hid rfl, rfl⟩
  case round =>
    obtain ⟨k, hk, rfl, HJ, rfl⟩ := hrel
    by_cases hlt : k < n
    · have hkl : k < L.length := by rw [← HN.out]; exact hlt
      obtain ⟨g, o, rfl, hg, c0⟩ := tx_cell HT.out (Below.refl _ _) hkl
      have i1 : (k : Int) < (n : Int) := by omega
      have i0 : (0 : Int) ≤ (k : Int) := by omega
      have wk : IntKind.i64.wrap ((k : Int) + 1) = ((k + 1 : Nat) : Int) := by rw [IntKind.wrap_i64]; omega
      have HT2 := hid (take_next L ⟨#[]⟩ k hkl)
      have hm := getD_mem hkl
      have HM := hid hm
      have hz := HSE.out _ hm
      have CC := fun W => refStep_any (L.getD k ⟨#[]⟩) hz W
      clear hm
      generalize L.getD k ⟨#[]⟩ = x at *
      cases ho : okS (bs x) with
      | true =>
        have HJ2 : Hid (allOk (L.take (k + 1)) = true) := hid (by
          have := HJ.out
          unfold allOk at this ⊢
          rw [HT2.out, List.all_append, this]; simp [ho])
        rw [ho] at CC
        clear ho
        go_wp2_with fail
        refine (CC _).mono ?_
        rintro e w2 ⟨rfl, rfl⟩
        go_wp2_with fail
        go_roundw
        case rel => exact ⟨k + 1, by omega, by rfl, HJ2, trivial⟩
        case measure => first | (simp [intOf]; done) | (simp [intOf]; omega)
      | false =>
        have hrf : r = false := by
          rw [HR.out, HML.out]
          have : allOk L = false := by
            unfold allOk
            rw [List.all_eq_false]
            exact ⟨x, HM.out, by rw [ho]; simp⟩
          rw [this, Bool.and_false]
        subst hrf
        rw [ho] at CC
        clear ho
        go_wp2_with fail
        refine (CC _).mono ?_
        rintro e w2 ⟨rfl, rfl⟩
        go_wp2_with fail
        go_ret
        exact ⟨rfl, HB.out⟩
    · obtain rfl : n = k := by omega
      have j1 : ¬ ((n : Int) < (n : Int)) := by omega
      have HJ3 : Hid (allOk L = true) := hid (by have := HJ.out; rwa [HN.out, List.take_length] at this)
      by_cases h1 : 0 < n
      · have i1 : (0 : Int) < (n : Int) := by omega
        by_cases h2 : s.size ≤ 96
        · have i2 : (s.size : Int) ≤ 96 := by omega
          have hrt : r = true := by
            rw [HR.out, HML.out, HJ3.out, decide_eq_true ⟨by rw [← HN.out]; exact h1, h2⟩]; rfl
          subst hrt
          go_wp2_with fail
          go_ret
          exact ⟨rfl, HB.out⟩
        · have i2 : ¬ (s.size : Int) ≤ 96 := by omega
          have hrf : r = false := by
            rw [HR.out, HML.out, decide_eq_false (by omega)]; rfl
          subst hrf
          go_wp2_with fail
          go_ret
          exact ⟨rfl, HB.out⟩
      · have i1 : ¬ (0 : Int) < (n : Int) := by omega
        have hrf : r = false := by
          rw [HR.out, HML.out, decide_eq_false (by rw [← HN.out]; omega)]; rfl
        subst hrf
        go_wp2_with fail
        go_ret
        exact ⟨rfl, HB.out⟩
end Go.Proofs.YtnhekngmgjnodaaDoor
