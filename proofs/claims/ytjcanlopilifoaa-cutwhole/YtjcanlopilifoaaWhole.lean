/- The walk of CutWhole. -/
import Derived.Test.YtjcanlopilifoaaOps
namespace Go.Proofs.Ytjcanlopilifoaa
open Go.RowKit
open Gr
set_option linter.unusedVariables false
theorem sized_get {n : Nat} : ∀ {l : List Nat} {b : Nat}, Sized n b l → ∀ (i : Nat) (h : i < l.length), l[i] - lastE b (l.take i) ≤ 1024 ∧ (l[i] < n → 64 ≤ l[i] - lastE b (l.take i))
  | [], b, _, i, h => by simp at h
  | x :: r, b, hs, 0, _ => ⟨hs.1, hs.2.1⟩
  | x :: r, b, hs, i + 1, h => sized_get hs.2.2 i (by simpa using h)
theorem rise_get {l : List Nat} : ∀ {b : Nat}, Rise b l → ∀ (i : Nat) (h : i + 1 < l.length), l[i] < l[i + 1] := by
  induction l with
  | nil => intro b _ i h; simp at h
  | cons x r ih =>
    intro b hr i h
    cases i with
    | zero =>
      cases r with
      | nil => simp at h
      | cons y t => exact hr.2.1
    | succ i => exact ih hr.2 i (by simpa using h)
/-- what the i-th chunk is -/
theorem chunk_get (s : ByteArray) (l : List Nat) : ∀ (b i : Nat) (h : i < l.length), (cuts s b l)[i]? = some (s.extract (lastE b (l.take i)) l[i]) := by
  induction l with
  | nil => intro b i h; simp at h
  | cons x r ih =>
    intro b i h
    cases i with
    | zero => rfl
    | succ i => exact ih x i (by simpa using h)
/-- all that is asked of the i-th -/
theorem whole_get (s : ByteArray) (i : Nat) (h : i < (ends (bs s)).length) : lastE 0 ((ends (bs s)).take i) < (ends (bs s))[i] ∧ (ends (bs s))[i] ≤ s.size ∧ (ends (bs s))[i] - lastE 0 ((ends (bs s)).take i) ≤ 1024 ∧ (i + 1 < (ends (bs s)).length → 64 ≤ (ends (bs s))[i] - lastE 0 ((ends (bs s)).take i)) := by
  have h1 := ends_next (take_pre (ends (bs s)) i h)
  rw [bs_length] at h1
  have h2 : (ends (bs s))[i] - lastE 0 ((ends (bs s)).take i) ≤ 1024 ∧ ((ends (bs s))[i] < (bs s).length → 64 ≤ (ends (bs s))[i] - lastE 0 ((ends (bs s)).take i)) := sized_get (run_sized (bs s).length (bs s) 0 0 0 (Nat.le_refl _) (by decide) (by omega)) i h
  refine ⟨h1.1, h1.2.1, h2.1, fun h3 => h2.2 ?_⟩
  have h4 := rise_get (run_rise (bs s) 0 0 0) i h3
  have h5 : (ends (bs s))[i + 1] ≤ 0 + (bs s).length := run_le (bs s) 0 0 0 _ (List.getElem_mem h3)
  have h6 : (ends (bs s))[i] < (ends (bs s))[i + 1] := h4
  omega
theorem whole_last (s : ByteArray) : lastE 0 (ends (bs s)) = s.size := by
  have := run_last (bs s) 0 0 0 (fun _ => rfl)
  rw [bs_length, Nat.zero_add] at this
  exact this
/-- what each slot of region 12 holds -/
def whF (s t : ByteArray) (g n ca k b x : Nat) (i : Nat) (v : Value) (_ : World) : Prop := match i with
  | 59 => v = .int .i64 (b : Int)
  | 60 => v = .slice (some ⟨g, 0, none⟩) n ca
  | 61 => v = .int .i64 (k : Int)
  | 62 => v = .pointer (some ⟨g, k, none⟩)
  | 63 => v = .string t
  | 64 => v = .int .i64 (t.size : Int)
  | 65 => v = .int .i64 (x : Int)
  | 66 => v = .string s
  | 67 => v = .int .i64 (s.size : Int)
  | 68 => v = .bool false
  | 69 => v = .bool false
  | 70 => v = .string s
  | 71 => v = .int .i64 (b : Int)
  | 72 => v = .int .i64 (b : Int)
  | 73 => v = .slice (some ⟨g, 0, none⟩) n ca
  | 74 => v = .int .i64 (k : Int)
  | 75 => v = .pointer (some ⟨g, k, none⟩)
  | 76 => v = .string t
  | 77 => v = .int .i64 (t.size : Int)
  | 78 => v = .int .i64 (x : Int)
  | 79 => v = .string t
  | 80 => v = .slice (some ⟨g, 0, none⟩) n ca
  | 81 => v = .int .i64 (k : Int)
  | 82 => v = .pointer (some ⟨g, k, none⟩)
  | 83 => v = .string t
  | 84 => v = .bool false
  | 85 => v = .bool false
  | _ => True
set_option maxHeartbeats 4000000 in
set_option maxRecDepth 20000 in
theorem whole_walk (s : ByteArray) (hs : s.size ≤ 9223372036854775807) (w : World) : Calls Try.prog 5 #[.string s] w fun e w' => e = .returned (.bool true) ∧ Below w.heap.size w w' := by
  by_cases hl : (60000 : Int) < (s.size : Int)
  · go_enter Try.func5, Try.ntmps5
    go_wp2_with fail
    refine (awake_true _).mono ?_
    rintro e w1 ⟨rfl, b1⟩
    go_wp2_with fail
    go_ret
    exact ⟨rfl, b1⟩
  · have hs2 : s.size ≤ 100000 := by omega
    go_enter Try.func5, Try.ntmps5
    go_wp2_with fail
    refine (awake_true _).mono ?_
    rintro e w1 ⟨rfl, b1⟩
    go_wp2_with fail
    refine (cut_any s hs2 _).mono ?_
    rintro e w2 ⟨va, rfl, ha, b2⟩
    have B2 := hid (b1.trans (b2.mono b1.size))
    have H2 := hid ha
    clear ha b1 b2
    go_wp2_with fail
    refine (ends_any s hs2 _).mono ?_
    rintro e w3 ⟨vb, rfl, hb, b3⟩
    have B3 := hid (B2.out.trans (b3.mono B2.out.size))
    have ha := row_below H2.out b3
    obtain ⟨n, hn⟩ : ∃ n, n = (ends (bs s)).length := ⟨_, rfl⟩
    have HG := hid (whole_get s)
    have HLL := hid (whole_last s)
    have hcl := chunks_len s
    have hel := ends_len s
    have HCG : Hid (∀ i (h : i < (ends (bs s)).length), (chunks s)[i]? = some (s.extract (lastE 0 ((ends (bs s)).take i)) (ends (bs s))[i])) := hid (fun i h => chunk_get s _ 0 i h)
    rw [hcl] at ha
    rw [← hn] at ha hb hel
    have HN := hid hn
    obtain ⟨A, ca, rfl, _, hA⟩ := row_form ha
    obtain ⟨B, cb, rfl, _, hBB⟩ := row_form hb
    have HA := hid hA
    have HB := hid hBB
    generalize hE : ends (bs s) = E at *
    have HE := hid hE
    clear ha hb b3 hn hcl hA hBB B2 H2 hE
    have e1 : ((n : Int) == (n : Int)) = true := by simp
    go_wp2_with fail
    go_loopw [5, 6] (fun v5 v6 wr => ∃ k : Nat, k ≤ n ∧ v5 = .int .i64 (lastE 0 (E.take k) : Int) ∧ v6 = .int .i64 (k : Int) ∧ Below w3.heap.size w3 wr) (fun _ v6 _ => n - (intOf v6).toNat)
    case atStart => exact ⟨0, Nat.zero_le _, rfl, rfl, Below.refl _ _⟩
    case round =>
      obtain ⟨k, hk, rfl, rfl, hB⟩ := hrel
      by_cases hlt : k < n
      · obtain ⟨g, rfl, _, hg2, hg3, _⟩ := HA.out k hlt
        obtain ⟨g', rfl, _, hg5, hg6, _⟩ := HB.out k hlt
        have hkE : k < E.length := by have := HN.out; omega
        obtain ⟨hx1, hx2, hx3, hx4⟩ := HG.out k hkE
        have c0 : wr.cell? ⟨g, k, none⟩ = some (.string (s.extract (lastE 0 (E.take k)) E[k])) := by
          rw [hB.cell (p := ⟨g, k, none⟩) hg2, hg3, List.getElem?_map, HCG.out k hkE]
          rfl
        have c1 : wr.cell? ⟨g', k, none⟩ = some (.int .i64 (E[k] : Int)) := by
          rw [hB.cell (p := ⟨g', k, none⟩) hg5, hg6]
          simp [nI, List.getElem?_eq_getElem hkE]
        have HT := hid (take_next E k hkE)
        obtain ⟨x, hx⟩ : ∃ x, x = E[k] := ⟨_, rfl⟩
        obtain ⟨b, hb⟩ : ∃ b, b = lastE 0 (E.take k) := ⟨_, rfl⟩
        rw [← hx, ← hb] at c0 hx1 hx3
        rw [← hx] at c1 hx2 HT
        rw [← hx, ← hb, ← HN.out] at hx4
        rw [← hb]
        obtain ⟨t, ht⟩ : ∃ t, t = s.extract b x := ⟨_, rfl⟩
        have hts : t.size = x - b := by rw [ht, ByteArray.size_extract]; omega
        rw [← ht] at c0
        have i1 : (k : Int) < (n : Int) := by omega
        have p1 : ¬ ((t.size : Int) < 1) := by omega
        have p2 : ¬ ((1024 : Int) < (t.size : Int)) := by omega
        have wk : IntKind.i64.wrap ((k : Int) + 1) = ((k + 1 : Nat) : Int) := by rw [IntKind.wrap_i64]; omega
        have wn : IntKind.i64.wrap ((n : Int) - 1) = (n : Int) - 1 := by rw [IntKind.wrap_i64]; omega
        have wx : IntKind.i64.wrap ((b : Int) + (t.size : Int)) = (x : Int) := by rw [IntKind.wrap_i64]; omega
        have p3 : ¬ ((s.size : Int) < (x : Int)) := by omega
        have p4 : (b : Int) ≤ (x : Int) := by omega
        have p5 : (x : Int) ≤ (s.size : Int) := by omega
        have p6 : (k : Int) < (n : Int) - 1 → ¬ ((t.size : Int) < 64) := by intro h; have := hx4 (by omega); omega
        have hcmp : ((s.extract b x).toList == t.toList) = true := by rw [ht]; simp
        have HTS := hid hts
        have HX := hid hx
        have HBE := hid hb
        have HTE := hid ht
        clear hts hx hb ht hx1 hx2 hx3 hx4 hg3 hg6
        have hk3 : ((k : Int) < (n : Int) - 1 ∧ ¬ ((t.size : Int) < 64)) ∨ ¬ ((k : Int) < (n : Int) - 1) := by
          by_cases hk2 : (k : Int) < (n : Int) - 1
          · exact .inl ⟨hk2, p6 hk2⟩
          · exact .inr hk2
        clear p6
        rcases hk3 with ⟨hk2, p7⟩ | hk2
        all_goals
          go_wp2_with fail
          refine Tl.wp_mix_lit (by kernel_rfl) 27 [59, 60, 61, 62, 63, 64, 65, 66, 67, 68, 69, 70, 71, 72, 73, 74, 75, 76, 77, 78, 79, 80, 81, 82, 83, 84, 85] 103 rfl (by kernel_rfl) (fun W' => W' = wr.drew) (whF s t g n ca k b x) rfl
            ⟨fun a' W' hC hF => ?_, fun a' W' hC hF => ?_, fun a' W' hC hF => ?_, fun a' W' hC hF => ?_, fun a' W' hC hF => ?_, fun a' W' hC hF => ?_, fun a' W' hC hF => ?_, fun a' W' hC hF => ?_, fun a' W' hC hF => ?_, fun a' W' hC hF => ?_, fun a' W' hC hF => ?_, fun a' W' hC hF => ?_, fun a' W' hC hF => ?_, fun a' W' hC hF => ?_, fun a' W' hC hF => ?_, fun a' W' hC hF => ?_, fun a' W' hC hF => ?_, fun a' W' hC hF => ?_, fun a' W' hC hF => ?_, fun a' W' hC hF => ?_, fun a' W' hC hF => ?_, fun a' W' hC hF => ?_, fun a' W' hC hF => ?_, fun a' W' hC hF => ?_, fun a' W' hC hF => ?_, fun a' W' hC hF => ?_, fun a' W' hC hF => ?_, trivial⟩ ?_
          · exact Tl.sm_v 59 _ rfl (Tl.wanted_none rfl) hC rfl (rn_move rfl ((hF 5 (by decide +kernel)).2 (by decide)))
          · exact Tl.sm_v 60 _ rfl (Tl.wanted_none rfl) hC rfl (rn_move rfl ((hF 3 (by decide +kernel)).2 (by decide)))
          · exact Tl.sm_v 61 _ rfl (Tl.wanted_none rfl) hC rfl (rn_move rfl ((hF 6 (by decide +kernel)).2 (by decide)))
          · exact Tl.sm_v 62 _ rfl (Tl.wanted_none rfl) hC rfl (rn_ix24 rfl ((hF 60 (by decide +kernel)).1 (by decide)) ((hF 61 (by decide +kernel)).1 (by decide)) hlt)
          · exact Tl.sm_v 63 _ rfl (Tl.wanted_none rfl) hC rfl (rn_load9 rfl ((hF 62 (by decide +kernel)).1 (by decide)) (by rw [hC]; exact c0))
          · exact Tl.sm_v 64 _ rfl (Tl.wanted_none rfl) hC rfl (rn_len9 rfl ((hF 63 (by decide +kernel)).1 (by decide)))
          · exact Tl.sm_v 65 _ rfl (Tl.wanted_none rfl) hC rfl (rn_addI rfl ((hF 59 (by decide +kernel)).1 (by decide)) ((hF 64 (by decide +kernel)).1 (by decide)) wx)
          · exact Tl.sm_v 66 _ rfl (Tl.wanted_none rfl) hC rfl (rn_move rfl ((hF 0 (by decide +kernel)).2 (by decide)))
          · exact Tl.sm_v 67 _ rfl (Tl.wanted_none rfl) hC rfl (rn_len9 rfl ((hF 66 (by decide +kernel)).1 (by decide)))
          · exact Tl.sm_v 68 _ rfl (Tl.wanted_none rfl) hC rfl (rn_gtr3 rfl ((hF 65 (by decide +kernel)).1 (by decide)) ((hF 67 (by decide +kernel)).1 (by decide)) (decide_eq_false (by omega)))
          · exact Tl.sm_v 69 _ rfl (Tl.wanted_none rfl) hC rfl (rn_move rfl ((hF 68 (by decide +kernel)).1 (by decide)))
          · exact Tl.sm_v 70 _ rfl (Tl.wanted_is rfl rfl ((hF 69 (by decide +kernel)).1 (by decide))) hC rfl (rn_move rfl ((hF 0 (by decide +kernel)).2 (by decide)))
          · exact Tl.sm_v 71 _ rfl (Tl.wanted_is rfl rfl ((hF 69 (by decide +kernel)).1 (by decide))) hC rfl (rn_move rfl ((hF 5 (by decide +kernel)).2 (by decide)))
          · exact Tl.sm_v 72 _ rfl (Tl.wanted_is rfl rfl ((hF 69 (by decide +kernel)).1 (by decide))) hC rfl (rn_move rfl ((hF 5 (by decide +kernel)).2 (by decide)))
          · exact Tl.sm_v 73 _ rfl (Tl.wanted_is rfl rfl ((hF 69 (by decide +kernel)).1 (by decide))) hC rfl (rn_move rfl ((hF 3 (by decide +kernel)).2 (by decide)))
          · exact Tl.sm_v 74 _ rfl (Tl.wanted_is rfl rfl ((hF 69 (by decide +kernel)).1 (by decide))) hC rfl (rn_move rfl ((hF 6 (by decide +kernel)).2 (by decide)))
          · exact Tl.sm_v 75 _ rfl (Tl.wanted_is rfl rfl ((hF 69 (by decide +kernel)).1 (by decide))) hC rfl (rn_ix24 rfl ((hF 73 (by decide +kernel)).1 (by decide)) ((hF 74 (by decide +kernel)).1 (by decide)) hlt)
          · exact Tl.sm_v 76 _ rfl (Tl.wanted_is rfl rfl ((hF 69 (by decide +kernel)).1 (by decide))) hC rfl (rn_load9 rfl ((hF 75 (by decide +kernel)).1 (by decide)) (by rw [hC]; exact c0))
          · exact Tl.sm_v 77 _ rfl (Tl.wanted_is rfl rfl ((hF 69 (by decide +kernel)).1 (by decide))) hC rfl (rn_len9 rfl ((hF 76 (by decide +kernel)).1 (by decide)))
          · exact Tl.sm_v 78 _ rfl (Tl.wanted_is rfl rfl ((hF 69 (by decide +kernel)).1 (by decide))) hC rfl (rn_addI rfl ((hF 72 (by decide +kernel)).1 (by decide)) ((hF 77 (by decide +kernel)).1 (by decide)) wx)
          · exact Tl.sm_v 79 _ rfl (Tl.wanted_is rfl rfl ((hF 69 (by decide +kernel)).1 (by decide))) hC rfl (rn_sl9x rfl ((hF 70 (by decide +kernel)).1 (by decide)) ((hF 71 (by decide +kernel)).1 (by decide)) ((hF 78 (by decide +kernel)).1 (by decide)) (by omega) (by omega) HTE.out.symm)
          · exact Tl.sm_v 80 _ rfl (Tl.wanted_is rfl rfl ((hF 69 (by decide +kernel)).1 (by decide))) hC rfl (rn_move rfl ((hF 3 (by decide +kernel)).2 (by decide)))
          · exact Tl.sm_v 81 _ rfl (Tl.wanted_is rfl rfl ((hF 69 (by decide +kernel)).1 (by decide))) hC rfl (rn_move rfl ((hF 6 (by decide +kernel)).2 (by decide)))
          · exact Tl.sm_v 82 _ rfl (Tl.wanted_is rfl rfl ((hF 69 (by decide +kernel)).1 (by decide))) hC rfl (rn_ix24 rfl ((hF 80 (by decide +kernel)).1 (by decide)) ((hF 81 (by decide +kernel)).1 (by decide)) hlt)
          · exact Tl.sm_v 83 _ rfl (Tl.wanted_is rfl rfl ((hF 69 (by decide +kernel)).1 (by decide))) hC rfl (rn_load9 rfl ((hF 82 (by decide +kernel)).1 (by decide)) (by rw [hC]; exact c0))
          · exact Tl.sm_v 84 _ rfl (Tl.wanted_is rfl rfl ((hF 69 (by decide +kernel)).1 (by decide))) hC rfl (rn_neqS rfl ((hF 79 (by decide +kernel)).1 (by decide)) ((hF 83 (by decide +kernel)).1 (by decide)))
          · exact Tl.sm_v 85 _ rfl (Tl.wanted_none rfl) hC rfl (rn_pickF rfl ((hF 69 (by decide +kernel)).1 (by decide)) ((hF 84 (by decide +kernel)).1 (by decide)))
          intro v' w4 hw4 hv
          subst hw4
          have v59 : v' 59 = .int .i64 (b : Int) := hv 59 (by decide)
          have v60 : v' 60 = .slice (some ⟨g, 0, none⟩) n ca := hv 60 (by decide)
          have v61 : v' 61 = .int .i64 (k : Int) := hv 61 (by decide)
          have v62 : v' 62 = .pointer (some ⟨g, k, none⟩) := hv 62 (by decide)
          have v63 : v' 63 = .string t := hv 63 (by decide)
          have v64 : v' 64 = .int .i64 (t.size : Int) := hv 64 (by decide)
          have v65 : v' 65 = .int .i64 (x : Int) := hv 65 (by decide)
          have v66 : v' 66 = .string s := hv 66 (by decide)
          have v67 : v' 67 = .int .i64 (s.size : Int) := hv 67 (by decide)
          have v68 : v' 68 = .bool false := hv 68 (by decide)
          have v69 : v' 69 = .bool false := hv 69 (by decide)
          have v70 : v' 70 = .string s := hv 70 (by decide)
          have v71 : v' 71 = .int .i64 (b : Int) := hv 71 (by decide)
          have v72 : v' 72 = .int .i64 (b : Int) := hv 72 (by decide)
          have v73 : v' 73 = .slice (some ⟨g, 0, none⟩) n ca := hv 73 (by decide)
          have v74 : v' 74 = .int .i64 (k : Int) := hv 74 (by decide)
          have v75 : v' 75 = .pointer (some ⟨g, k, none⟩) := hv 75 (by decide)
          have v76 : v' 76 = .string t := hv 76 (by decide)
          have v77 : v' 77 = .int .i64 (t.size : Int) := hv 77 (by decide)
          have v78 : v' 78 = .int .i64 (x : Int) := hv 78 (by decide)
          have v79 : v' 79 = .string t := hv 79 (by decide)
          have v80 : v' 80 = .slice (some ⟨g, 0, none⟩) n ca := hv 80 (by decide)
          have v81 : v' 81 = .int .i64 (k : Int) := hv 81 (by decide)
          have v82 : v' 82 = .pointer (some ⟨g, k, none⟩) := hv 82 (by decide)
          have v83 : v' 83 = .string t := hv 83 (by decide)
          have v84 : v' 84 = .bool false := hv 84 (by decide)
          have v85 : v' 85 = .bool false := hv 85 (by decide)
          simp only [Tl.fill, List.drop_succ_cons, List.drop_zero, wpList]
          simp only [Act.put, List.setIfInBounds_toArray, List.set_cons_succ, List.set_cons_zero, v59, v60, v61, v62, v63, v64, v65, v66, v67, v68, v69, v70, v71, v72, v73, v74, v75, v76, v77, v78, v79, v80, v81, v82, v83, v84, v85]
          clear hv v59 v60 v61 v62 v63 v64 v65 v66 v67 v68 v69 v70 v71 v72 v73 v74 v75 v76 v77 v78 v79 v80 v81 v82 v83 v84 v85
          have c2 : wr.drew.cell? ⟨g, k, none⟩ = some (.string t) := c0
          have c3 : wr.drew.cell? ⟨g', k, none⟩ = some (.int .i64 (x : Int)) := c1
          have HD := hid hB.drew
          clear c0 c1 hB
          go_wp2_with fail
          go_roundw
          case rel => exact ⟨k + 1, by omega, by rw [HT.out, lastE_snoc], by rfl, HD.out⟩
          case measure => first | (simp [intOf]; done) | (simp [intOf]; omega)
      · obtain rfl : k = n := by omega
        have q1 : ¬ ((k : Int) < (k : Int)) := by omega
        have hlast : lastE 0 (E.take k) = s.size := by
          rw [List.take_of_length_le (by rw [← HN.out]; exact Nat.le_refl _)]
          exact HLL.out
        rw [hlast]
        have HD := hid (B3.out.trans (hB.mono B3.out.size))
        clear hB hlast
        have e2 : ((s.size : Int) == (s.size : Int)) = true := by simp
        go_wp2_with fail
        go_ret
        exact ⟨rfl, HD.out⟩
end Go.Proofs.Ytjcanlopilifoaa
