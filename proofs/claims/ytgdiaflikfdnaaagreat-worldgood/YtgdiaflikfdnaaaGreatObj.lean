/- The contract of SameObjects, of the document. -/
import Derived.Test.YtgdiaflikfdnaaaGreatExt
namespace Go.Proofs.YtgdiaflikfdnaaaGreat
open Go.RowKit Go.Maps
section
variable {ev : Operand → Value} {o : Oper} {w : World} {x y : Operand}
theorem rn_neq28 {p q : Ob} (ho : o.op = .binOp .neq 35 x y 35) (hx : ev x = .agg #[.string p.1, .string p.2]) (hy : ev y = .agg #[.string q.1, .string q.2]) : (execOp ev o).run Tryz.prog w = .ok (.value (.bool (!decide (p = q)))) w := by
  obtain ⟨p1, p2⟩ := p
  obtain ⟨q1, q2⟩ := q
  have h1 := neq28 w p1 p2 q1 q2
  unfold obv at h1
  have h2 := fun a b => gd28 .neq w a b #[.string p1, .string p2] #[.string q1, .string q2]
  simp [execOp, ho, hx, hy, h1, h2, Result.andThen]
theorem rn_ix45 {g n c i : Nat} (ho : o.op = .indexAddr 55 x y) (hx : ev x = .slice (some ⟨g, 0, none⟩) n c) (hy : ev y = .int .i64 (i : Int)) (hi : i < n) : (execOp ev o).run Tryz.prog w = .ok (.value (.pointer (some ⟨g, i * 2, none⟩))) w := by
  have q1 : (i : Int) < (n : Int) := by omega
  simp [execOp, ho, hx, hy, go_sem, q1]
end
theorem ob_cells {w : World} {base : Nat} {v : Value} {M : List Ob} (h : w.ownsRow base 35 2 v M.length (objCells M)) {k : Nat} {p : Ob} (hp : M[k]? = some p) : ∃ g cap, v = .slice (some ⟨g, 0, none⟩) M.length cap ∧ w.cell? ⟨g, k * 2, none⟩ = some (.string p.1) ∧ w.cell? ⟨g, k * 2 + 1, none⟩ = some (.string p.2) := by
  rcases row_form h with ⟨_, h0, _⟩ | ⟨g, cap, rfl, _, _, _, _, hc⟩
  · rw [List.eq_nil_of_length_eq_zero h0] at hp; simp at hp
  · exact ⟨g, cap, rfl, hc _ _ (objCells_get M k p hp).1, hc _ _ (objCells_get M k p hp).2⟩
def soF (v1 v2 : Value) (g1 g2 k : Nat) (p q : Ob) (i : Nat) (v : Value) (_ : World) : Prop := match i with
  | 17 => v = v1
  | 18 => v = .int .i64 (k : Int)
  | 19 => v = .pointer (some ⟨g1, k * 2, none⟩)
  | 20 => v = .agg #[.string p.1, .string p.2]
  | 21 => v = v2
  | 22 => v = .int .i64 (k : Int)
  | 23 => v = .pointer (some ⟨g2, k * 2, none⟩)
  | 24 => v = .agg #[.string q.1, .string q.2]
  | 25 => v = .bool (!decide (p = q))
  | _ => True
set_option maxHeartbeats 2000000 in
set_option maxRecDepth 20000 in
theorem sameObj_any {w : World} {B1 B2 : Nat} {v1 v2 : Value} {a b : List Ob} (h1 : w.ownsRow B1 35 2 v1 a.length (objCells a)) (h2 : w.ownsRow B2 35 2 v2 b.length (objCells b)) : Calls Tryz.prog 21 #[v1, v2] w fun e w' => e = .returned (.bool (decide (a = b))) ∧ Below w.heap.size w w' := by
  have HR := hid (show a.length ≠ b.length → decide (a = b) = false from fun h => decide_eq_false fun e => h (by rw [e]))
  rcases row_form h1 with ⟨rfl, e1, _⟩ | ⟨g1, c1, rfl, hg1, _, _, hm1, _⟩
  · have ea : a = [] := List.eq_nil_of_length_eq_zero e1
    subst ea
    obtain ⟨va, vc, rfl⟩ := row_slice h2
    cases b with
    | nil =>
      clear h1 h2 HR
      go_enter Tryz.func21, Tryz.ntmps21
      go_wp2_with fail
      refine wp_loop_rounds 1 ?_
      rw [rounds_succ]
      go_wp2_with fail
      go_ret
      exact ⟨rfl, Below.refl _ _⟩
    | cons q r =>
      have q0 : ((0 : Int) != ((q :: r).length : Int)) = true := by
        rw [bne_iff_ne, List.length_cons]; omega
      have HD := hid (show decide (([] : List Ob) = q :: r) = false from rfl)
      generalize (q :: r).length = L at *
      clear h1 h2 HR
      go_enter Tryz.func21, Tryz.ntmps21
      go_wp2_with fail
      go_ret
      exact ⟨rfl, Below.refl _ _⟩
  · obtain ⟨va, vc, rfl⟩ := row_slice h2
    by_cases hl : a.length = b.length
    · have H1 := hid h1
      have H2 := hid h2
      generalize hn : a.length = n at *
      have HA := hid hn
      have hnb : b.length = n := hl.symm
      have HB := hid hnb
      rw [hnb]
      clear h1 h2 hl hnb HR hn
      unfold maxLen at hm1
      go_enter Tryz.func21, Tryz.ntmps21
      go_wp2_with fail
      go_loopg [5] n (fun gk s5 wx => ∃ k : Nat, k + gk = n ∧ s5 = .int .i64 (k : Int) ∧ Hid (a.take k = b.take k) ∧ Below w.heap.size w wx)
      case atStart => exact ⟨0, by omega, rfl, hid (by simp), Below.refl _ _⟩
      case round =>
        obtain ⟨k, hk, rfl, HT, hbw⟩ := hrel
        have HBW := hid hbw
        cases gk with
        | zero =>
          have q1 : ¬ ((k : Int) < (n : Int)) := by omega
          have hkn : k = n := by omega
          have HE := hid (show decide (a = b) = true from decide_eq_true (by
            have := HT.out
            rwa [List.take_of_length_le (by rw [HA.out]; omega), List.take_of_length_le (by rw [HB.out]; omega)] at this))
          clear hbw HT
          go_wp2_with fail
          go_ret
          exact ⟨by rw [HE.out]; rfl, HBW.out⟩
        | succ g1' =>
          have q1 : (k : Int) < (n : Int) := by omega
          have hk1 : k < n := by omega
          obtain ⟨p, hp⟩ : ∃ p, a[k]? = some p := ⟨_, List.getElem?_eq_getElem (by rw [HA.out]; exact hk1)⟩
          obtain ⟨q, hq⟩ : ∃ q, b[k]? = some q := ⟨_, List.getElem?_eq_getElem (by rw [HB.out]; exact hk1)⟩
          obtain ⟨ga, ca, ea, hca⟩ := ob_cells (row_below (by rw [HA.out]; exact H1.out) hbw) hp
          obtain ⟨gb, cb, eb, hcb⟩ := ob_cells (row_below (by rw [HB.out]; exact (by simpa [HB.out] using H2.out)) hbw) hq
          rw [HA.out] at ea
          rw [HB.out] at eb
          cases ea
          cases eb
          obtain ⟨d0, d1⟩ := hca
          obtain ⟨f0, f1⟩ := hcb
          have HS := hid (show p = q → a.take (k + 1) = b.take (k + 1) from fun e => take_eq_succ HT.out hp hq e)
          have HN := hid (show p ≠ q → decide (a = b) = false from fun e => decide_eq_false fun e2 => e (by rw [e2, hq] at hp; exact (Option.some.inj hp).symm))
          clear hp hq hbw HT
          go_wp2_with fail
          refine Tl.wp_mix_lit (by kernel_rfl) 9 [17, 18, 19, 20, 21, 22, 23, 24, 25] 26 rfl (by kernel_rfl) (AtW wr.drew) (soF (.slice (some ⟨g1, 0, none⟩) n c1) (.slice (some ⟨gb, 0, none⟩) n vc) g1 gb k p q) rfl
            ⟨fun a' W' hC hF => ?_, fun a' W' hC hF => ?_, fun a' W' hC hF => ?_, fun a' W' hC hF => ?_, fun a' W' hC hF => ?_, fun a' W' hC hF => ?_, fun a' W' hC hF => ?_, fun a' W' hC hF => ?_, fun a' W' hC hF => ?_, trivial⟩ ?_
          · exact Tl.sm_v 17 _ rfl (Tl.wanted_none rfl) hC rfl (rn_move rfl ((hF 0 (by decide +kernel)).2 (by decide)))
          · exact Tl.sm_v 18 _ rfl (Tl.wanted_none rfl) hC rfl (rn_move rfl ((hF 5 (by decide +kernel)).2 (by decide)))
          · exact Tl.sm_v 19 _ rfl (Tl.wanted_none rfl) hC rfl (rn_ix45 rfl ((hF 17 (by decide +kernel)).1 (by decide)) ((hF 18 (by decide +kernel)).1 (by decide)) hk1)
          · exact Tl.sm_v 20 _ rfl (Tl.wanted_none rfl) hC rfl (rn_load28 rfl ((hF 19 (by decide +kernel)).1 (by decide)) (by rw [show W' = _ from hC]; exact d0) (by rw [show W' = _ from hC]; exact d1))
          · exact Tl.sm_v 21 _ rfl (Tl.wanted_none rfl) hC rfl (rn_move rfl ((hF 1 (by decide +kernel)).2 (by decide)))
          · exact Tl.sm_v 22 _ rfl (Tl.wanted_none rfl) hC rfl (rn_move rfl ((hF 5 (by decide +kernel)).2 (by decide)))
          · exact Tl.sm_v 23 _ rfl (Tl.wanted_none rfl) hC rfl (rn_ix45 rfl ((hF 21 (by decide +kernel)).1 (by decide)) ((hF 22 (by decide +kernel)).1 (by decide)) hk1)
          · exact Tl.sm_v 24 _ rfl (Tl.wanted_none rfl) hC rfl (rn_load28 rfl ((hF 23 (by decide +kernel)).1 (by decide)) (by rw [show W' = _ from hC]; exact f0) (by rw [show W' = _ from hC]; exact f1))
          · exact Tl.sm_v 25 _ rfl (Tl.wanted_none rfl) hC rfl (rn_neq28 rfl ((hF 20 (by decide +kernel)).1 (by decide)) ((hF 24 (by decide +kernel)).1 (by decide)) )
          intro v wB hw hv
          obtain rfl : wB = _ := hw
          have v25 : v 25 = .bool (!decide (p = q)) := hv 25 (by decide)
          clear hv
          simp only [Tl.fill, List.drop_succ_cons, List.drop_zero, wpList]
          by_cases hpq : p = q
          · rw [decide_eq_true hpq] at v25
            simp only [Act.put, List.setIfInBounds_toArray, List.set_cons_succ, List.set_cons_zero, v25]
            have HS' := hid (HS.out hpq)
            clear hpq
            go_wp2_with fail
            go_roundg g1'
            case measure => omega
            case rel => exact ⟨k + 1, by omega, by first | rfl | simp, HS', HBW.out.drew⟩
          · rw [decide_eq_false hpq] at v25
            simp only [Act.put, List.setIfInBounds_toArray, List.set_cons_succ, List.set_cons_zero, v25]
            have HN' := hid (HN.out hpq)
            clear hpq
            go_wp2_with fail
            go_ret
            exact ⟨by rw [HN'.out]; rfl, HBW.out.drew⟩
    · have q0 : ((a.length : Int) != (b.length : Int)) = true := by rw [bne_iff_ne]; omega
      have HE := hid (HR.out hl)
      generalize a.length = L1 at *
      generalize b.length = L2 at *
      clear h1 h2 HR hl
      go_enter Tryz.func21, Tryz.ntmps21
      go_wp2_with fail
      go_ret
      exact ⟨by rw [HE.out]; rfl, Below.refl _ _⟩
end Go.Proofs.YtgdiaflikfdnaaaGreat
