/- The walk of CutLocal. -/
import Derived.Test.YtjcanlopilifoaaOps
namespace Go.Proofs.Ytjcanlopilifoaa
open Go.RowKit
open Gr
set_option linter.unusedVariables false
theorem bs_app (a b : ByteArray) : bs (a ++ b) = bs a ++ bs b := by
  unfold bs
  rw [ByteArray.data_append, Array.toList_append, List.map_append]
theorem local_row (head a b tail : List Nat) (i k x : Nat) (hi : i < (ends (head ++ a ++ tail)).length) (hk : k < (ends (head ++ b ++ tail)).length) (h1 : (ends (head ++ a ++ tail)).getD i 0 = head.length + a.length + x) (h2 : (ends (head ++ b ++ tail)).getD k 0 = head.length + b.length + x) :
    (ends (head ++ a ++ tail)).length + k = (ends (head ++ b ++ tail)).length + i ∧ ∀ j, i + j < (ends (head ++ a ++ tail)).length → (ends (head ++ a ++ tail)).getD (i + j) 0 + b.length = (ends (head ++ b ++ tail)).getD (k + j) 0 + a.length := by
  rw [List.getD_eq_getElem?_getD, List.getElem?_eq_getElem hi] at h1
  rw [List.getD_eq_getElem?_getD, List.getElem?_eq_getElem hk] at h2
  obtain ⟨T, e1, e2⟩ := local_two head a b tail i k x hi hk h1 h2
  have l1 := congrArg List.length e1
  have l2 := congrArg List.length e2
  rw [List.length_drop, List.length_map] at l1 l2
  refine ⟨by omega, fun j hj => ?_⟩
  cases j with
  | zero =>
    rw [Nat.add_zero, Nat.add_zero, List.getD_eq_getElem?_getD, List.getElem?_eq_getElem hi, List.getD_eq_getElem?_getD, List.getElem?_eq_getElem hk]
    show (ends (head ++ a ++ tail))[i] + _ = (ends (head ++ b ++ tail))[k] + _
    have h1' : (ends (head ++ a ++ tail))[i] = head.length + a.length + x := h1
    have h2' : (ends (head ++ b ++ tail))[k] = head.length + b.length + x := h2
    omega
  | succ j =>
    have hT : j < T.length := by omega
    have f1 : (ends (head ++ a ++ tail))[i + (j + 1)]? = some (T[j] + (head.length + a.length + x)) := by
      have : ((ends (head ++ a ++ tail)).drop (i + 1))[j]? = some (T[j] + (head.length + a.length + x)) := by
        rw [e1, List.getElem?_map, List.getElem?_eq_getElem hT]; rfl
      rw [List.getElem?_drop] at this
      rw [← this]; congr 1; omega
    have f2 : (ends (head ++ b ++ tail))[k + (j + 1)]? = some (T[j] + (head.length + b.length + x)) := by
      have : ((ends (head ++ b ++ tail)).drop (k + 1))[j]? = some (T[j] + (head.length + b.length + x)) := by
        rw [e2, List.getElem?_map, List.getElem?_eq_getElem hT]; rfl
      rw [List.getElem?_drop] at this
      rw [← this]; congr 1; omega
    rw [List.getD_eq_getElem?_getD, f1, List.getD_eq_getElem?_getD, f2]
    show T[j] + _ + _ = T[j] + _ + _
    omega
theorem local_first (head a b tail : List Nat) (i : Nat) (hi : i < (ends (head ++ a ++ tail)).length) (hl : (ends (head ++ a ++ tail)).getD i 0 < head.length) : i < (ends (head ++ b ++ tail)).length ∧ (ends (head ++ b ++ tail)).getD i 0 = (ends (head ++ a ++ tail)).getD i 0 := by
  have hi' : i < (ends (head ++ (a ++ tail))).length := by rw [← List.append_assoc]; exact hi
  have hl' : (ends (head ++ (a ++ tail)))[i] < head.length := by
    rw [List.getD_eq_getElem?_getD, List.append_assoc, List.getElem?_eq_getElem hi'] at hl
    exact hl
  have h := local_one head (a ++ tail) (b ++ tail) i hi' hl'
  have hlt := (List.getElem?_eq_some_iff.1 h).1
  rw [List.append_assoc, List.append_assoc]
  refine ⟨hlt, ?_⟩
  rw [List.getD_eq_getElem?_getD, h, List.getD_eq_getElem?_getD, List.getElem?_eq_getElem hi']
/-- what each slot of region 7 holds -/
def loF (g n ca g2 m cb i : Nat) (z : Int) (j : Nat) (v : Value) (_ : World) : Prop := match j with
  | 66 => v = .int .i64 (i : Int)
  | 67 => v = .slice (some ⟨g2, 0, none⟩) m cb
  | 68 => v = .int .i64 (m : Int)
  | 69 => v = .bool false
  | 70 => v = .bool false
  | 71 => v = .slice (some ⟨g2, 0, none⟩) m cb
  | 72 => v = .int .i64 (i : Int)
  | 73 => v = .pointer (some ⟨g2, i, none⟩)
  | 74 => v = .int .i64 z
  | 75 => v = .slice (some ⟨g, 0, none⟩) n ca
  | 76 => v = .int .i64 (i : Int)
  | 77 => v = .pointer (some ⟨g, i, none⟩)
  | 78 => v = .int .i64 z
  | 79 => v = .bool false
  | 80 => v = .bool false
  | _ => True
set_option maxHeartbeats 8000000 in
set_option maxRecDepth 20000 in
theorem local_walk (hd a b tl : ByteArray) (h0 : hd.size ≤ 9223372036854775807) (h1 : a.size ≤ 9223372036854775807) (h2 : b.size ≤ 9223372036854775807) (h3 : tl.size ≤ 9223372036854775807) (w : World) : Calls Try.prog 6 #[.string hd, .string a, .string b, .string tl] w fun e w' => e = .returned (.bool true) ∧ Below w.heap.size w w' := by
  by_cases hl : (20000 : Int) < (hd.size : Int) ∨ (20000 : Int) < (a.size : Int) ∨ (20000 : Int) < (b.size : Int) ∨ (20000 : Int) < (tl.size : Int)
  · have hc : ((20000 : Int) < (hd.size : Int)) ∨ (¬ ((20000 : Int) < (hd.size : Int)) ∧ (20000 : Int) < (a.size : Int)) ∨ (¬ ((20000 : Int) < (hd.size : Int)) ∧ ¬ ((20000 : Int) < (a.size : Int)) ∧ (20000 : Int) < (b.size : Int)) ∨ (¬ ((20000 : Int) < (hd.size : Int)) ∧ ¬ ((20000 : Int) < (a.size : Int)) ∧ ¬ ((20000 : Int) < (b.size : Int)) ∧ (20000 : Int) < (tl.size : Int)) := by omega
    clear hl
    rcases hc with q1 | ⟨q1, q2⟩ | ⟨q1, q2, q3⟩ | ⟨q1, q2, q3, q4⟩
    all_goals
      go_enter Try.func6, Try.ntmps6
      go_wp2_with fail
      refine (awake_true _).mono ?_
      rintro e w1 ⟨rfl, b1⟩
      go_wp2_with fail
      go_ret
      exact ⟨rfl, b1⟩
  · have q1 : ¬ ((20000 : Int) < (hd.size : Int)) := fun h => hl (.inl h)
    have q2 : ¬ ((20000 : Int) < (a.size : Int)) := fun h => hl (.inr (.inl h))
    have q3 : ¬ ((20000 : Int) < (b.size : Int)) := fun h => hl (.inr (.inr (.inl h)))
    have q4 : ¬ ((20000 : Int) < (tl.size : Int)) := fun h => hl (.inr (.inr (.inr h)))
    clear hl
    have z1 : ¬ (9223372036854775807 < hd.size + a.size) := by omega
    have z2 : ¬ (9223372036854775807 < (hd ++ a).size + tl.size) := by rw [ByteArray.size_append]; omega
    have z3 : ¬ (9223372036854775807 < hd.size + b.size) := by omega
    have z4 : ¬ (9223372036854775807 < (hd ++ b).size + tl.size) := by rw [ByteArray.size_append]; omega
    have y1 : (hd ++ a ++ tl).size ≤ 100000 := by rw [ByteArray.size_append, ByteArray.size_append]; omega
    have y2 : (hd ++ b ++ tl).size ≤ 100000 := by rw [ByteArray.size_append, ByteArray.size_append]; omega
    have CA := fun W => ends_any (hd ++ a ++ tl) y1 W
    have CB := fun W => ends_any (hd ++ b ++ tl) y2 W
    have EA := ends_len (hd ++ a ++ tl)
    have EB := ends_len (hd ++ b ++ tl)
    have RW := fun (i k x : Nat) => local_row (bs hd) (bs a) (bs b) (bs tl) i k x
    have RF := fun (i : Nat) => local_first (bs hd) (bs a) (bs b) (bs tl) i
    have LA : ∀ e ∈ ends (bs (hd ++ a ++ tl)), e ≤ 100000 := fun e he => by
      have := run_le _ 0 0 0 e he
      rw [bs_length] at this; omega
    have LB : ∀ e ∈ ends (bs (hd ++ b ++ tl)), e ≤ 100000 := fun e he => by
      have := run_le _ 0 0 0 e he
      rw [bs_length] at this; omega
    rw [bs_app, bs_app] at CA CB EA EB LA LB
    simp only [bs_length] at RW RF
    generalize ends (bs hd ++ bs a ++ bs tl) = L at *
    generalize ends (bs hd ++ bs b ++ bs tl) = M at *
    have HLA : Hid (∀ i, L.getD i 0 ≤ 100000) := hid fun i => by
      by_cases hi : i < L.length
      · rw [List.getD_eq_getElem?_getD, List.getElem?_eq_getElem hi]; exact LA _ (List.getElem_mem hi)
      · rw [List.getD_eq_getElem?_getD, List.getElem?_eq_none (by omega)]; simp
    have HLB : Hid (∀ i, M.getD i 0 ≤ 100000) := hid fun i => by
      by_cases hi : i < M.length
      · rw [List.getD_eq_getElem?_getD, List.getElem?_eq_getElem hi]; exact LB _ (List.getElem_mem hi)
      · rw [List.getD_eq_getElem?_getD, List.getElem?_eq_none (by omega)]; simp
    have HRW := hid RW
    have HRF := hid RF
    clear RW RF LA LB
    go_enter Try.func6, Try.ntmps6
    go_wp2_with fail
    refine (awake_true _).mono ?_
    rintro e w1 ⟨rfl, b1⟩
    go_wp2_with fail
    refine (CA _).mono ?_
    rintro e w2 ⟨va, rfl, ha, b2⟩
    have B2 := hid (b1.trans (b2.mono b1.size))
    have H2 := hid ha
    clear ha b1 b2
    go_wp2_with fail
    refine (CB _).mono ?_
    rintro e w3 ⟨vb, rfl, hb, b3⟩
    have B3 := hid (B2.out.trans (b3.mono B2.out.size))
    have ha := row_below H2.out b3
    obtain ⟨A, ca, rfl, _, hA⟩ := row_form ha
    obtain ⟨B, cb, rfl, _, hBB⟩ := row_form hb
    obtain ⟨n, hn⟩ : ∃ n, n = L.length := ⟨_, rfl⟩
    obtain ⟨m, hm⟩ : ∃ m, m = M.length := ⟨_, rfl⟩
    rw [← hn] at hA EA ⊢
    rw [← hm] at hBB EB ⊢
    have HA : Hid (∀ W, Below w3.heap.size w3 W → ∀ j, j < n → ∃ g, A = some ⟨g, 0, none⟩ ∧ W.cell? ⟨g, j, none⟩ = some (.int .i64 ((L.getD j 0 : Nat) : Int))) := hid fun W hW j hj => by
      obtain ⟨g, h1, _, h2, h3, _⟩ := hA j hj
      refine ⟨g, h1, ?_⟩
      rw [hW.cell (p := ⟨g, j, none⟩) h2, h3, List.getElem?_map, List.getD_eq_getElem?_getD, List.getElem?_eq_getElem (by omega)]; rfl
    have HB : Hid (∀ W, Below w3.heap.size w3 W → ∀ j, j < m → ∃ g, B = some ⟨g, 0, none⟩ ∧ W.cell? ⟨g, j, none⟩ = some (.int .i64 ((M.getD j 0 : Nat) : Int))) := hid fun W hW j hj => by
      obtain ⟨g, h1, _, h2, h3, _⟩ := hBB j hj
      refine ⟨g, h1, ?_⟩
      rw [hW.cell (p := ⟨g, j, none⟩) h2, h3, List.getElem?_map, List.getD_eq_getElem?_getD, List.getElem?_eq_getElem (by omega)]; rfl
    have HR : Hid (∀ i k x : Nat, i < n → k < m → L.getD i 0 = hd.size + a.size + x → M.getD k 0 = hd.size + b.size + x → n + k = m + i ∧ ∀ j, i + j < n → L.getD (i + j) 0 + b.size = M.getD (k + j) 0 + a.size) := hid fun i k x hi hk e1 e2 => by
      rw [hn, hm]
      exact HRW.out i k x (by omega) (by omega) e1 e2
    have HF : Hid (∀ i, i < n → L.getD i 0 < hd.size → i < m ∧ M.getD i 0 = L.getD i 0) := hid fun i hi e => by
      rw [hm]
      exact HRF.out i (by omega) e
    have hnn : n ≤ 100000 := by rw [hn]; omega
    have hmm : m ≤ 100000 := by rw [hm]; omega
    clear ha hb b3 hA hBB hn hm HRW HRF H2 B2 CA CB
    go_wp2_with fail
    go_loopw [11] (fun v11 wr => ∃ i : Nat, i ≤ n ∧ v11 = .int .i64 (i : Int) ∧ Below w3.heap.size w3 wr) (fun v11 _ => n - (intOf v11).toNat)
    case atStart => exact ⟨0, Nat.zero_le _, rfl, Below.refl _ _⟩
    case round =>
      obtain ⟨i, hi, rfl, hB⟩ := hrel
      by_cases hc : i < n ∧ L.getD i 0 < hd.size
      · obtain ⟨hin, hlt⟩ := hc
        obtain ⟨him, hLM⟩ := HF.out i hin hlt
        obtain ⟨g, hg, c0⟩ := HA.out wr hB i hin
        obtain ⟨g2, hg2, c1⟩ := HB.out wr hB i him
        cases hg
        cases hg2
        rw [hLM] at c1
        obtain ⟨z, hz⟩ : ∃ z : Int, z = ((L.getD i 0 : Nat) : Int) := ⟨_, rfl⟩
        rw [← hz] at c0 c1
        have r1 : (i : Int) < (n : Int) := by omega
        have r2 : z < (hd.size : Int) := by omega
        have r3 : (i : Int) < (m : Int) := by omega
        have wk : IntKind.i64.wrap ((i : Int) + 1) = ((i + 1 : Nat) : Int) := by rw [IntKind.wrap_i64]; omega
        clear hz hLM hlt
        go_wp2_with fail
        refine Tl.wp_mix_lit (by kernel_rfl) 15 [66, 67, 68, 69, 70, 71, 72, 73, 74, 75, 76, 77, 78, 79, 80] 155 rfl (by kernel_rfl) (fun W' => W' = wr.drew) (loF g n ca g2 m cb i z) rfl
          ⟨fun a' W' hC hF => ?_, fun a' W' hC hF => ?_, fun a' W' hC hF => ?_, fun a' W' hC hF => ?_, fun a' W' hC hF => ?_, fun a' W' hC hF => ?_, fun a' W' hC hF => ?_, fun a' W' hC hF => ?_, fun a' W' hC hF => ?_, fun a' W' hC hF => ?_, fun a' W' hC hF => ?_, fun a' W' hC hF => ?_, fun a' W' hC hF => ?_, fun a' W' hC hF => ?_, fun a' W' hC hF => ?_, trivial⟩ ?_
        · exact Tl.sm_v 66 _ rfl (Tl.wanted_none rfl) hC rfl (rn_move rfl ((hF 11 (by decide +kernel)).2 (by decide)))
        · exact Tl.sm_v 67 _ rfl (Tl.wanted_none rfl) hC rfl (rn_move rfl ((hF 10 (by decide +kernel)).2 (by decide)))
        · exact Tl.sm_v 68 _ rfl (Tl.wanted_none rfl) hC rfl (rn_len27 rfl ((hF 67 (by decide +kernel)).1 (by decide)))
        · exact Tl.sm_v 69 _ rfl (Tl.wanted_none rfl) hC rfl (rn_geq3 rfl ((hF 66 (by decide +kernel)).1 (by decide)) ((hF 68 (by decide +kernel)).1 (by decide)) (decide_eq_false (by omega)))
        · exact Tl.sm_v 70 _ rfl (Tl.wanted_none rfl) hC rfl (rn_move rfl ((hF 69 (by decide +kernel)).1 (by decide)))
        · exact Tl.sm_v 71 _ rfl (Tl.wanted_is rfl rfl ((hF 70 (by decide +kernel)).1 (by decide))) hC rfl (rn_move rfl ((hF 10 (by decide +kernel)).2 (by decide)))
        · exact Tl.sm_v 72 _ rfl (Tl.wanted_is rfl rfl ((hF 70 (by decide +kernel)).1 (by decide))) hC rfl (rn_move rfl ((hF 11 (by decide +kernel)).2 (by decide)))
        · exact Tl.sm_v 73 _ rfl (Tl.wanted_is rfl rfl ((hF 70 (by decide +kernel)).1 (by decide))) hC rfl (rn_ix27 rfl ((hF 71 (by decide +kernel)).1 (by decide)) ((hF 72 (by decide +kernel)).1 (by decide)) him)
        · exact Tl.sm_v 74 _ rfl (Tl.wanted_is rfl rfl ((hF 70 (by decide +kernel)).1 (by decide))) hC rfl (rn_load3 rfl ((hF 73 (by decide +kernel)).1 (by decide)) (by rw [hC]; exact c1))
        · exact Tl.sm_v 75 _ rfl (Tl.wanted_is rfl rfl ((hF 70 (by decide +kernel)).1 (by decide))) hC rfl (rn_move rfl ((hF 9 (by decide +kernel)).2 (by decide)))
        · exact Tl.sm_v 76 _ rfl (Tl.wanted_is rfl rfl ((hF 70 (by decide +kernel)).1 (by decide))) hC rfl (rn_move rfl ((hF 11 (by decide +kernel)).2 (by decide)))
        · exact Tl.sm_v 77 _ rfl (Tl.wanted_is rfl rfl ((hF 70 (by decide +kernel)).1 (by decide))) hC rfl (rn_ix27 rfl ((hF 75 (by decide +kernel)).1 (by decide)) ((hF 76 (by decide +kernel)).1 (by decide)) hin)
        · exact Tl.sm_v 78 _ rfl (Tl.wanted_is rfl rfl ((hF 70 (by decide +kernel)).1 (by decide))) hC rfl (rn_load3 rfl ((hF 77 (by decide +kernel)).1 (by decide)) (by rw [hC]; exact c0))
        · exact Tl.sm_v 79 _ rfl (Tl.wanted_is rfl rfl ((hF 70 (by decide +kernel)).1 (by decide))) hC rfl (rn_neq3 rfl ((hF 74 (by decide +kernel)).1 (by decide)) ((hF 78 (by decide +kernel)).1 (by decide)) (by simp))
        · exact Tl.sm_v 80 _ rfl (Tl.wanted_none rfl) hC rfl (rn_pickF rfl ((hF 70 (by decide +kernel)).1 (by decide)) ((hF 79 (by decide +kernel)).1 (by decide)))
        intro v' w4 hw4 hv
        subst hw4
        have v66 : v' 66 = .int .i64 (i : Int) := hv 66 (by decide)
        have v67 : v' 67 = .slice (some ⟨g2, 0, none⟩) m cb := hv 67 (by decide)
        have v68 : v' 68 = .int .i64 (m : Int) := hv 68 (by decide)
        have v69 : v' 69 = .bool false := hv 69 (by decide)
        have v70 : v' 70 = .bool false := hv 70 (by decide)
        have v71 : v' 71 = .slice (some ⟨g2, 0, none⟩) m cb := hv 71 (by decide)
        have v72 : v' 72 = .int .i64 (i : Int) := hv 72 (by decide)
        have v73 : v' 73 = .pointer (some ⟨g2, i, none⟩) := hv 73 (by decide)
        have v74 : v' 74 = .int .i64 z := hv 74 (by decide)
        have v75 : v' 75 = .slice (some ⟨g, 0, none⟩) n ca := hv 75 (by decide)
        have v76 : v' 76 = .int .i64 (i : Int) := hv 76 (by decide)
        have v77 : v' 77 = .pointer (some ⟨g, i, none⟩) := hv 77 (by decide)
        have v78 : v' 78 = .int .i64 z := hv 78 (by decide)
        have v79 : v' 79 = .bool false := hv 79 (by decide)
        have v80 : v' 80 = .bool false := hv 80 (by decide)
        simp only [Tl.fill, List.drop_succ_cons, List.drop_zero, wpList]
        simp only [Act.put, List.setIfInBounds_toArray, List.set_cons_succ, List.set_cons_zero, v66, v67, v68, v69, v70, v71, v72, v73, v74, v75, v76, v77, v78, v79, v80]
        clear hv v66 v67 v68 v69 v70 v71 v72 v73 v74 v75 v76 v77 v78 v79 v80
        have HD := hid hB.drew
        clear c0 c1 hB
        go_wp2_with fail
        go_roundw
        case rel => exact ⟨i + 1, by omega, by rfl, HD.out⟩
        case measure => first | (simp [intOf]; done) | (simp [intOf]; omega)
      · have HBX := hid hB
        by_cases hin0 : i < n
        · obtain ⟨g0, hg0, c00⟩ := HA.out wr hB i hin0
          cases hg0
          have r1 : (i : Int) < (n : Int) := by omega
          have r2 : ¬ (((L.getD i 0 : Nat) : Int) < (hd.size : Int)) := by
            intro h
            exact hc ⟨hin0, by omega⟩
          generalize L.getD i 0 = zz at *
          clear hc hB
          go_wp2_with fail
          go_loopw [12] (fun v12 wr => ∃ i : Nat, i ≤ n ∧ v12 = .int .i64 (i : Int) ∧ Below w3.heap.size w3 wr) (fun v12 _ => n - (intOf v12).toNat)
          case atStart => exact ⟨0, Nat.zero_le _, rfl, HBX.out⟩
          case round =>
            obtain ⟨i, hi, rfl, hB⟩ := hrel
            by_cases hin : i < n
            · obtain ⟨g, hg, c0⟩ := HA.out wr hB i hin
              cases hg
              obtain ⟨zi, hzi⟩ : ∃ zi, zi = L.getD i 0 := ⟨_, rfl⟩
              have hzl := HLA.out i
              rw [← hzi] at c0 hzl
              obtain ⟨x, hx⟩ : ∃ x : Int, x = (zi : Int) - (hd.size : Int) - (a.size : Int) := ⟨_, rfl⟩
              have r1 : (i : Int) < (n : Int) := by omega
              have wx1 : IntKind.i64.wrap ((zi : Int) - (hd.size : Int)) = (zi : Int) - (hd.size : Int) := by rw [IntKind.wrap_i64]; omega
              have wx2 : IntKind.i64.wrap ((zi : Int) - (hd.size : Int) - (a.size : Int)) = x := by rw [IntKind.wrap_i64]; omega
              have wk : IntKind.i64.wrap ((i : Int) + 1) = ((i + 1 : Nat) : Int) := by rw [IntKind.wrap_i64]; omega
              have HZI := hid hzi
              have HX := hid hx
              clear hzi hx
              have HB0 := hid hB
              clear hB
              go_wp2_with fail
              go_loopw [14] (fun v14 wr => ∃ k : Nat, k ≤ m ∧ v14 = .int .i64 (k : Int) ∧ Below w3.heap.size w3 wr) (fun v14 _ => m - (intOf v14).toNat)
              case atStart => exact ⟨0, Nat.zero_le _, rfl, HB0.out⟩
              case round =>
                obtain ⟨k, hk, rfl, hB⟩ := hrel
                clear c0
                by_cases hkm : k < m
                · obtain ⟨g2, hg2, c1⟩ := HB.out wr hB k hkm
                  cases hg2
                  obtain ⟨zk, hzk⟩ : ∃ zk, zk = M.getD k 0 := ⟨_, rfl⟩
                  have hzl2 := HLB.out k
                  rw [← hzk] at c1 hzl2
                  have r2 : (k : Int) < (m : Int) := by omega
                  have wk2 : IntKind.i64.wrap ((k : Int) + 1) = ((k + 1 : Nat) : Int) := by rw [IntKind.wrap_i64]; omega
                  by_cases hneg : x < 0
                  · clear c1 hzk
                    go_wp2_with fail
                    go_roundw
                    case rel => exact ⟨k + 1, by omega, by rfl, hB⟩
                    case measure => first | (simp [intOf]; done) | (simp [intOf]; omega)
                  · obtain ⟨y, hy⟩ : ∃ y : Int, y = (zk : Int) - (hd.size : Int) - (b.size : Int) := ⟨_, rfl⟩
                    have wy1 : IntKind.i64.wrap ((zk : Int) - (hd.size : Int)) = (zk : Int) - (hd.size : Int) := by rw [IntKind.wrap_i64]; omega
                    have wy2 : IntKind.i64.wrap ((zk : Int) - (hd.size : Int) - (b.size : Int)) = y := by rw [IntKind.wrap_i64]; omega
                    have HZK := hid hzk
                    have HY := hid hy
                    clear hzk hy
                    by_cases hxy : y = x
                    · subst hxy
                      obtain ⟨e1, e2⟩ := HR.out i k y.toNat hin hkm (by have := HX.out; have := HZI.out; omega) (by have := HY.out; have := HZK.out; omega)
                      obtain ⟨D, hD⟩ : ∃ D : Int, D = (n : Int) - (i : Int) := ⟨_, rfl⟩
                      have wD1 : IntKind.i64.wrap ((n : Int) - (i : Int)) = D := by rw [IntKind.wrap_i64]; omega
                      have wD2 : IntKind.i64.wrap ((m : Int) - (k : Int)) = D := by rw [IntKind.wrap_i64]; omega
                      have HE1 := hid e1
                      have HE2 := hid e2
                      have HB1 := hid hB
                      clear e1 e2 hD hB
                      go_wp2_with fail
                      go_loopw [15] (fun v15 wr => ∃ j : Nat, i + j ≤ n ∧ v15 = .int .i64 (j : Int) ∧ Below w3.heap.size w3 wr) (fun v15 _ => n - (intOf v15).toNat)
                      case atStart => exact ⟨0, by omega, rfl, HB1.out⟩
                      case round =>
                        obtain ⟨j, hj, rfl, hB⟩ := hrel
                        clear c1
                        obtain ⟨p, hp⟩ : ∃ p, p = i + j := ⟨_, rfl⟩
                        obtain ⟨q, hq⟩ : ∃ q, q = k + j := ⟨_, rfl⟩
                        have wp : IntKind.i64.wrap ((i : Int) + (j : Int)) = (p : Int) := by rw [IntKind.wrap_i64]; omega
                        have wq : IntKind.i64.wrap ((k : Int) + (j : Int)) = (q : Int) := by rw [IntKind.wrap_i64]; omega
                        have wj : IntKind.i64.wrap ((j : Int) + 1) = ((j + 1 : Nat) : Int) := by rw [IntKind.wrap_i64]; omega
                        by_cases hpn : p < n
                        · have hqm : q < m := by have := HE1.out; omega
                          obtain ⟨g3, hg3, c2⟩ := HA.out wr hB p hpn
                          obtain ⟨g4, hg4, c3⟩ := HB.out wr hB q hqm
                          cases hg3
                          cases hg4
                          have hsame := HE2.out j (by omega)
                          rw [← hp, ← hq] at hsame
                          have hl1 := HLA.out p
                          have hl2 := HLB.out q
                          generalize L.getD p 0 = zp at *
                          generalize M.getD q 0 = zq at *
                          obtain ⟨d, hd'⟩ : ∃ d : Int, d = (zp : Int) - (a.size : Int) := ⟨_, rfl⟩
                          have wd1 : IntKind.i64.wrap ((zp : Int) - (a.size : Int)) = d := by rw [IntKind.wrap_i64]; omega
                          have wd2 : IntKind.i64.wrap ((zq : Int) - (b.size : Int)) = d := by rw [IntKind.wrap_i64]; omega
                          have s1 : (p : Int) < (n : Int) := by omega
                          have s2 : (q : Int) < (m : Int) := by omega
                          have s3 : (0 : Int) ≤ (p : Int) := by omega
                          have s4 : (0 : Int) ≤ (q : Int) := by omega
                          have HP := hid hp
                          have HQ := hid hq
                          clear hd' hp hq hsame
                          go_wp2_with fail
                          go_region
                          have HD := hid hB.drew
                          clear c2 c3 hB
                          go_wp2_with fail
                          go_roundw
                          case rel => exact ⟨j + 1, by have := HP.out; omega, by rfl, HD.out⟩
                          case measure => first | (simp [intOf]; done) | (have := HP.out; simp [intOf]; omega)
                        · have s1 : ¬ ((p : Int) < (n : Int)) := by omega
                          have HD := hid (B3.out.trans (hB.mono B3.out.size))
                          clear hp hq hB
                          go_wp2_with fail
                          go_ret
                          exact ⟨rfl, HD.out⟩
                    · have hne : (y == x) = false := by simpa using hxy
                      clear hxy
                      go_wp2_with fail
                      go_roundw
                      case rel => exact ⟨k + 1, by omega, by rfl, hB⟩
                      case measure => first | (simp [intOf]; done) | (simp [intOf]; omega)
                · obtain rfl : k = m := by omega
                  have r2 : ¬ ((k : Int) < (k : Int)) := by omega
                  go_wp2_with fail
                  go_roundw
                  case rel => exact ⟨i + 1, by omega, by rfl, hB⟩
                  case measure => first | (simp [intOf]; done) | (simp [intOf]; omega)
            · obtain rfl : i = n := by omega
              have r1 : ¬ ((i : Int) < (i : Int)) := by omega
              have HD := hid (B3.out.trans (hB.mono B3.out.size))
              clear hB
              go_wp2_with fail
              go_ret
              exact ⟨rfl, HD.out⟩
        · obtain rfl : i = n := by omega
          have r1 : ¬ ((i : Int) < (i : Int)) := by omega
          clear hc hB hin0
          generalize hN : i = n at *
          clear hN
          go_wp2_with fail
          go_loopw [12] (fun v12 wr => ∃ i : Nat, i ≤ n ∧ v12 = .int .i64 (i : Int) ∧ Below w3.heap.size w3 wr) (fun v12 _ => n - (intOf v12).toNat)
          case atStart => exact ⟨0, Nat.zero_le _, rfl, HBX.out⟩
          case round =>
            obtain ⟨i, hi, rfl, hB⟩ := hrel
            by_cases hin : i < n
            · obtain ⟨g, hg, c0⟩ := HA.out wr hB i hin
              cases hg
              obtain ⟨zi, hzi⟩ : ∃ zi, zi = L.getD i 0 := ⟨_, rfl⟩
              have hzl := HLA.out i
              rw [← hzi] at c0 hzl
              obtain ⟨x, hx⟩ : ∃ x : Int, x = (zi : Int) - (hd.size : Int) - (a.size : Int) := ⟨_, rfl⟩
              have r1 : (i : Int) < (n : Int) := by omega
              have wx1 : IntKind.i64.wrap ((zi : Int) - (hd.size : Int)) = (zi : Int) - (hd.size : Int) := by rw [IntKind.wrap_i64]; omega
              have wx2 : IntKind.i64.wrap ((zi : Int) - (hd.size : Int) - (a.size : Int)) = x := by rw [IntKind.wrap_i64]; omega
              have wk : IntKind.i64.wrap ((i : Int) + 1) = ((i + 1 : Nat) : Int) := by rw [IntKind.wrap_i64]; omega
              have HZI := hid hzi
              have HX := hid hx
              clear hzi hx
              have HB0 := hid hB
              clear hB
              go_wp2_with fail
              go_loopw [14] (fun v14 wr => ∃ k : Nat, k ≤ m ∧ v14 = .int .i64 (k : Int) ∧ Below w3.heap.size w3 wr) (fun v14 _ => m - (intOf v14).toNat)
              case atStart => exact ⟨0, Nat.zero_le _, rfl, HB0.out⟩
              case round =>
                obtain ⟨k, hk, rfl, hB⟩ := hrel
                clear c0
                by_cases hkm : k < m
                · obtain ⟨g2, hg2, c1⟩ := HB.out wr hB k hkm
                  cases hg2
                  obtain ⟨zk, hzk⟩ : ∃ zk, zk = M.getD k 0 := ⟨_, rfl⟩
                  have hzl2 := HLB.out k
                  rw [← hzk] at c1 hzl2
                  have r2 : (k : Int) < (m : Int) := by omega
                  have wk2 : IntKind.i64.wrap ((k : Int) + 1) = ((k + 1 : Nat) : Int) := by rw [IntKind.wrap_i64]; omega
                  by_cases hneg : x < 0
                  · clear c1 hzk
                    go_wp2_with fail
                    go_roundw
                    case rel => exact ⟨k + 1, by omega, by rfl, hB⟩
                    case measure => first | (simp [intOf]; done) | (simp [intOf]; omega)
                  · obtain ⟨y, hy⟩ : ∃ y : Int, y = (zk : Int) - (hd.size : Int) - (b.size : Int) := ⟨_, rfl⟩
                    have wy1 : IntKind.i64.wrap ((zk : Int) - (hd.size : Int)) = (zk : Int) - (hd.size : Int) := by rw [IntKind.wrap_i64]; omega
                    have wy2 : IntKind.i64.wrap ((zk : Int) - (hd.size : Int) - (b.size : Int)) = y := by rw [IntKind.wrap_i64]; omega
                    have HZK := hid hzk
                    have HY := hid hy
                    clear hzk hy
                    by_cases hxy : y = x
                    · subst hxy
                      obtain ⟨e1, e2⟩ := HR.out i k y.toNat hin hkm (by have := HX.out; have := HZI.out; omega) (by have := HY.out; have := HZK.out; omega)
                      obtain ⟨D, hD⟩ : ∃ D : Int, D = (n : Int) - (i : Int) := ⟨_, rfl⟩
                      have wD1 : IntKind.i64.wrap ((n : Int) - (i : Int)) = D := by rw [IntKind.wrap_i64]; omega
                      have wD2 : IntKind.i64.wrap ((m : Int) - (k : Int)) = D := by rw [IntKind.wrap_i64]; omega
                      have HE1 := hid e1
                      have HE2 := hid e2
                      have HB1 := hid hB
                      clear e1 e2 hD hB
                      go_wp2_with fail
                      go_loopw [15] (fun v15 wr => ∃ j : Nat, i + j ≤ n ∧ v15 = .int .i64 (j : Int) ∧ Below w3.heap.size w3 wr) (fun v15 _ => n - (intOf v15).toNat)
                      case atStart => exact ⟨0, by omega, rfl, HB1.out⟩
                      case round =>
                        obtain ⟨j, hj, rfl, hB⟩ := hrel
                        clear c1
                        obtain ⟨p, hp⟩ : ∃ p, p = i + j := ⟨_, rfl⟩
                        obtain ⟨q, hq⟩ : ∃ q, q = k + j := ⟨_, rfl⟩
                        have wp : IntKind.i64.wrap ((i : Int) + (j : Int)) = (p : Int) := by rw [IntKind.wrap_i64]; omega
                        have wq : IntKind.i64.wrap ((k : Int) + (j : Int)) = (q : Int) := by rw [IntKind.wrap_i64]; omega
                        have wj : IntKind.i64.wrap ((j : Int) + 1) = ((j + 1 : Nat) : Int) := by rw [IntKind.wrap_i64]; omega
                        by_cases hpn : p < n
                        · have hqm : q < m := by have := HE1.out; omega
                          obtain ⟨g3, hg3, c2⟩ := HA.out wr hB p hpn
                          obtain ⟨g4, hg4, c3⟩ := HB.out wr hB q hqm
                          cases hg3
                          cases hg4
                          have hsame := HE2.out j (by omega)
                          rw [← hp, ← hq] at hsame
                          have hl1 := HLA.out p
                          have hl2 := HLB.out q
                          generalize L.getD p 0 = zp at *
                          generalize M.getD q 0 = zq at *
                          obtain ⟨d, hd'⟩ : ∃ d : Int, d = (zp : Int) - (a.size : Int) := ⟨_, rfl⟩
                          have wd1 : IntKind.i64.wrap ((zp : Int) - (a.size : Int)) = d := by rw [IntKind.wrap_i64]; omega
                          have wd2 : IntKind.i64.wrap ((zq : Int) - (b.size : Int)) = d := by rw [IntKind.wrap_i64]; omega
                          have s1 : (p : Int) < (n : Int) := by omega
                          have s2 : (q : Int) < (m : Int) := by omega
                          have s3 : (0 : Int) ≤ (p : Int) := by omega
                          have s4 : (0 : Int) ≤ (q : Int) := by omega
                          have HP := hid hp
                          have HQ := hid hq
                          clear hd' hp hq hsame
                          go_wp2_with fail
                          go_region
                          have HD := hid hB.drew
                          clear c2 c3 hB
                          go_wp2_with fail
                          go_roundw
                          case rel => exact ⟨j + 1, by have := HP.out; omega, by rfl, HD.out⟩
                          case measure => first | (simp [intOf]; done) | (have := HP.out; simp [intOf]; omega)
                        · have s1 : ¬ ((p : Int) < (n : Int)) := by omega
                          have HD := hid (B3.out.trans (hB.mono B3.out.size))
                          clear hp hq hB
                          go_wp2_with fail
                          go_ret
                          exact ⟨rfl, HD.out⟩
                    · have hne : (y == x) = false := by simpa using hxy
                      clear hxy
                      go_wp2_with fail
                      go_roundw
                      case rel => exact ⟨k + 1, by omega, by rfl, hB⟩
                      case measure => first | (simp [intOf]; done) | (simp [intOf]; omega)
                · obtain rfl : k = m := by omega
                  have r2 : ¬ ((k : Int) < (k : Int)) := by omega
                  go_wp2_with fail
                  go_roundw
                  case rel => exact ⟨i + 1, by omega, by rfl, hB⟩
                  case measure => first | (simp [intOf]; done) | (simp [intOf]; omega)
            · obtain rfl : i = n := by omega
              have r1 : ¬ ((i : Int) < (i : Int)) := by omega
              have HD := hid (B3.out.trans (hB.mono B3.out.size))
              clear hB
              go_wp2_with fail
              go_ret
              exact ⟨rfl, HD.out⟩
end Go.Proofs.Ytjcanlopilifoaa
