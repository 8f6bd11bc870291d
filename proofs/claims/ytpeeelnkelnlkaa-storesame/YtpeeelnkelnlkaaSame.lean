/- The contracts of maps.Equal and slices.Equal at the store's types. -/
import Derived.Test.YtpeeelnkelnlkaaEq
namespace Go.Proofs.Ytpeeelnkelnlkaa
open Go.RowKit Go.Maps
section
variable {ev : Operand → Value} {o : Oper} {w : World} {x y : Operand}
theorem rn_neq83 {p q : Wr} (ho : o.op = .binOp .neq 83 x y 83) (hx : ev x = .agg (wcells p).toArray) (hy : ev y = .agg (wcells q).toArray) : (execOp ev o).run Try.prog w = .ok (.value (.bool (!decide (p = q)))) w := by
  have h1 := neq83 w p q
  have h2 := fun a b => gd83 .neq w a b (wcells p).toArray (wcells q).toArray
  simp [execOp, ho, hx, hy, h1, h2, Result.andThen]
theorem rn_ix59 {g n c i : Nat} (ho : o.op = .indexAddr 59 x y) (hx : ev x = .slice (some ⟨g, 0, none⟩) n c) (hy : ev y = .int .i64 (i : Int)) (hi : i < n) : (execOp ev o).run Try.prog w = .ok (.value (.pointer (some ⟨g, i * 5, none⟩))) w := by
  have q1 : (i : Int) < (n : Int) := by omega
  simp [execOp, ho, hx, hy, go_sem, q1]
end
def seF (v1 v2 : Value) (g1 g2 k : Nat) (p q : Wr) (i : Nat) (v : Value) (_ : World) : Prop := match i with
  | 16 => v = v1
  | 17 => v = .int .i64 (k : Int)
  | 18 => v = .pointer (some ⟨g1, k * 5, none⟩)
  | 19 => v = .agg (wcells p).toArray
  | 20 => v = v2
  | 21 => v = .int .i64 (k : Int)
  | 22 => v = .pointer (some ⟨g2, k * 5, none⟩)
  | 23 => v = .agg (wcells q).toArray
  | 24 => v = .bool (!decide (p = q))
  | _ => True
theorem take_eq_succ {α : Type} {l m : List α} {k : Nat} {x y : α} (h : l.take k = m.take k) (hx : l[k]? = some x) (hy : m[k]? = some y) (e : x = y) : l.take (k + 1) = m.take (k + 1) := by
  rw [List.take_add_one, List.take_add_one, hx, hy, h, e]
set_option maxHeartbeats 2000000 in
set_option maxRecDepth 20000 in
theorem slicesEq_any {w : World} {v1 v2 : Value} {a b : List Wr} (h1 : w.ownsRow 0 83 5 v1 a.length (a.flatMap wcells)) (h2 : w.ownsRow 0 83 5 v2 b.length (b.flatMap wcells)) : Calls Try.prog 42 #[v1, v2] w fun e w' => e = .returned (.bool (decide (a = b))) ∧ Below w.heap.size w w' := by
  have HR := hid (show a.length ≠ b.length → decide (a = b) = false from fun h => decide_eq_false fun e => h (by rw [e]))
  rcases row_form h1 with ⟨rfl, e1, _⟩ | ⟨g1, c1, rfl, hg1, _, _, hm1, _⟩
  · have ea : a = [] := List.eq_nil_of_length_eq_zero e1
    subst ea
    obtain ⟨va, vc, rfl⟩ := row_slice h2
    cases b with
    | nil =>
      clear h1 h2 HR
      go_enter Try.func42, Try.ntmps42
      go_wp2_with fail
      refine wp_loop_rounds 1 ?_
      rw [rounds_succ]
      go_wp2_with fail
      go_ret
      exact ⟨rfl, Below.refl _ _⟩
    | cons q r =>
      have q0 : ((0 : Int) != ((q :: r).length : Int)) = true := by
        rw [bne_iff_ne, List.length_cons]; omega
      have HD := hid (show decide (([] : List Wr) = q :: r) = false from rfl)
      generalize (q :: r).length = L at *
      clear h1 h2 HR
      go_enter Try.func42, Try.ntmps42
      go_wp2_with fail
      go_ret
      exact ⟨rfl, Below.refl _ _⟩
  · obtain ⟨va, vc, rfl⟩ := row_slice h2
    by_cases hl : a.length = b.length
    · have H1 := hid h1
      have H2 := hid h2
      generalize hn : a.length = n at *
      have HA := hid hn
      have hnb : b.length = n := hl.symm
      have HB := hid hnb
      rw [hnb]
      clear h1 h2 hl hnb HR hn
      unfold maxLen at hm1
      go_enter Try.func42, Try.ntmps42
      go_wp2_with fail
      go_loopg [13] n (fun gk s13 wx => ∃ k : Nat, k + gk = n ∧ s13 = .int .i64 (k : Int) ∧ Hid (a.take k = b.take k) ∧ Below w.heap.size w wx)
      case atStart => exact ⟨0, by omega, rfl, hid (by simp), Below.refl _ _⟩
      case round =>
        obtain ⟨k, hk, rfl, HT, hbw⟩ := hrel
        have HBW := hid hbw
        cases gk with
        | zero =>
          have q1 : ¬ ((k : Int) < (n : Int)) := by omega
          have hkn : k = n := by omega
          have HE := hid (show decide (a = b) = true from decide_eq_true (by
            have := HT.out
            rwa [List.take_of_length_le (by rw [HA.out]; omega), List.take_of_length_le (by rw [HB.out]; omega)] at this))
          clear hbw HT
          go_wp2_with fail
          go_ret
          exact ⟨by rw [HE.out]; rfl, HBW.out⟩
        | succ g1' =>
          have q1 : (k : Int) < (n : Int) := by omega
          have hk1 : k < n := by omega
          obtain ⟨p, hp⟩ : ∃ p, a[k]? = some p := ⟨_, List.getElem?_eq_getElem (by rw [HA.out]; exact hk1)⟩
          obtain ⟨q, hq⟩ : ∃ q, b[k]? = some q := ⟨_, List.getElem?_eq_getElem (by rw [HB.out]; exact hk1)⟩
          obtain ⟨ga, ca, ea, _, hca⟩ := wr_cells (row_below (by rw [HA.out]; exact H1.out) hbw) hp
          obtain ⟨gb, cb, eb, _, hcb⟩ := wr_cells (row_below (by rw [HB.out]; exact (by simpa [HB.out] using H2.out)) hbw) hq
          rw [HA.out] at ea
          rw [HB.out] at eb
          cases ea
          cases eb
          have d0 : wr.cell? ⟨g1, k * 5, none⟩ = some (.string p.name) := hca 0 _ rfl
          have d1 := hca 1 _ rfl
          have d2 := hca 2 _ rfl
          have d3 := hca 3 _ rfl
          have d4 := hca 4 _ rfl
          have f0 : wr.cell? ⟨gb, k * 5, none⟩ = some (.string q.name) := hcb 0 _ rfl
          have f1 := hcb 1 _ rfl
          have f2 := hcb 2 _ rfl
          have f3 := hcb 3 _ rfl
          have f4 := hcb 4 _ rfl
          have HS := hid (show p = q → a.take (k + 1) = b.take (k + 1) from fun e => take_eq_succ HT.out hp hq e)
          have HN := hid (show p ≠ q → decide (a = b) = false from fun e => decide_eq_false fun e2 => e (by rw [e2, hq] at hp; exact (Option.some.inj hp).symm))
          clear hca hcb hp hq hbw HT
          go_wp2_with fail
          refine Tl.wp_mix_lit (by kernel_rfl) 9 [16, 17, 18, 19, 20, 21, 22, 23, 24] 26 rfl (by kernel_rfl) (AtW wr.drew) (seF (.slice (some ⟨g1, 0, none⟩) n c1) (.slice (some ⟨gb, 0, none⟩) n vc) g1 gb k p q) rfl
            ⟨fun a' W' hC hF => ?_, fun a' W' hC hF => ?_, fun a' W' hC hF => ?_, fun a' W' hC hF => ?_, fun a' W' hC hF => ?_, fun a' W' hC hF => ?_, fun a' W' hC hF => ?_, fun a' W' hC hF => ?_, fun a' W' hC hF => ?_, trivial⟩ ?_
          · exact Tl.sm_v 16 _ rfl (Tl.wanted_none rfl) hC rfl (rn_move rfl ((hF 0 (by decide +kernel)).2 (by decide)))
          · exact Tl.sm_v 17 _ rfl (Tl.wanted_none rfl) hC rfl (rn_move rfl ((hF 5 (by decide +kernel)).2 (by decide)))
          · exact Tl.sm_v 18 _ rfl (Tl.wanted_none rfl) hC rfl (rn_ix59 rfl ((hF 16 (by decide +kernel)).1 (by decide)) ((hF 17 (by decide +kernel)).1 (by decide)) hk1)
          · exact Tl.sm_v 19 _ rfl (Tl.wanted_none rfl) hC rfl (rn_load83 rfl ((hF 18 (by decide +kernel)).1 (by decide)) (by rw [show W' = _ from hC]; exact d0) (by rw [show W' = _ from hC]; exact d1) (by rw [show W' = _ from hC]; exact d2) (by rw [show W' = _ from hC]; exact d3) (by rw [show W' = _ from hC]; exact d4))
          · exact Tl.sm_v 20 _ rfl (Tl.wanted_none rfl) hC rfl (rn_move rfl ((hF 1 (by decide +kernel)).2 (by decide)))
          · exact Tl.sm_v 21 _ rfl (Tl.wanted_none rfl) hC rfl (rn_move rfl ((hF 5 (by decide +kernel)).2 (by decide)))
          · exact Tl.sm_v 22 _ rfl (Tl.wanted_none rfl) hC rfl (rn_ix59 rfl ((hF 20 (by decide +kernel)).1 (by decide)) ((hF 21 (by decide +kernel)).1 (by decide)) hk1)
          · exact Tl.sm_v 23 _ rfl (Tl.wanted_none rfl) hC rfl (rn_load83 rfl ((hF 22 (by decide +kernel)).1 (by decide)) (by rw [show W' = _ from hC]; exact f0) (by rw [show W' = _ from hC]; exact f1) (by rw [show W' = _ from hC]; exact f2) (by rw [show W' = _ from hC]; exact f3) (by rw [show W' = _ from hC]; exact f4))
          · exact Tl.sm_v 24 _ rfl (Tl.wanted_none rfl) hC rfl (rn_neq83 rfl ((hF 19 (by decide +kernel)).1 (by decide)) ((hF 23 (by decide +kernel)).1 (by decide)))
          intro v wB hw hv
          obtain rfl : wB = _ := hw
          have v24 : v 24 = .bool (!decide (p = q)) := hv 24 (by decide)
          clear hv
          simp only [Tl.fill, List.drop_succ_cons, List.drop_zero, wpList]
          by_cases hpq : p = q
          · rw [decide_eq_true hpq] at v24
            simp only [Act.put, List.setIfInBounds_toArray, List.set_cons_succ, List.set_cons_zero, v24]
            have HS' := hid (HS.out hpq)
            clear hpq
            go_wp2_with fail
            go_roundg g1'
            case measure => omega
            case rel => exact ⟨k + 1, by omega, by first | rfl | simp, HS', HBW.out.drew⟩
          · rw [decide_eq_false hpq] at v24
            simp only [Act.put, List.setIfInBounds_toArray, List.set_cons_succ, List.set_cons_zero, v24]
            have HN' := hid (HN.out hpq)
            clear hpq
            go_wp2_with fail
            go_ret
            exact ⟨by rw [HN'.out]; rfl, HBW.out.drew⟩
    · have q0 : ((a.length : Int) != (b.length : Int)) = true := by rw [bne_iff_ne]; omega
      have HE := hid (HR.out hl)
      generalize a.length = L1 at *
      generalize b.length = L2 at *
      clear h1 h2 HR hl
      go_enter Try.func42, Try.ntmps42
      go_wp2_with fail
      go_ret
      exact ⟨by rw [HE.out]; rfl, Below.refl _ _⟩
/-- all that are no longer to come are in the other one too -/
def Good (M N : List Ob) (left : Lit → Bool) : Prop := ∀ p ∈ M, left (.string p.1.data.toList) = false → look p.1 N = some p.2
theorem sub_step {a b : Ob} {r s : List Ob} (hM : Rising (a :: r)) (hN : Rising (b :: s)) (hs : ∀ p ∈ a :: r, p ∈ b :: s) : (a = b ∧ ∀ p ∈ r, p ∈ s) ∨ ∀ p ∈ a :: r, p ∈ s := by
  obtain ⟨m1, m2⟩ := List.pairwise_cons.1 hM
  obtain ⟨n1, n2⟩ := List.pairwise_cons.1 hN
  rcases List.mem_cons.1 (hs a List.mem_cons_self) with e | ha
  · refine .inl ⟨e, fun p hp => ?_⟩
    rcases List.mem_cons.1 (hs p (List.mem_cons_of_mem _ hp)) with e2 | h
    · exact absurd (by rw [e2, e]) (lt_ne (m1 p hp))
    · exact h
  · refine .inr fun p hp => ?_
    have hba := n1 a ha
    have hbp : lt b.1 p.1 = true := by
      rcases List.mem_cons.1 hp with rfl | h
      · exact hba
      · exact lt_trans hba (m1 p h)
    rcases List.mem_cons.1 (hs p hp) with e2 | h
    · rw [e2, lt_irrefl] at hbp; cases hbp
    · exact h
theorem sub_le : ∀ {N M : List Ob}, Rising M → Rising N → (∀ p ∈ M, p ∈ N) → M.length ≤ N.length
  | [], [], _, _, _ => Nat.le_refl _
  | [], a :: r, _, _, h => by have := h a List.mem_cons_self; cases this
  | b :: s, [], _, _, _ => Nat.zero_le _
  | b :: s, a :: r, hM, hN, h => by
    rcases sub_step hM hN h with ⟨_, h2⟩ | h2
    · have := sub_le (List.pairwise_cons.1 hM).2 (List.pairwise_cons.1 hN).2 h2
      simp; exact this
    · have := sub_le hM (List.pairwise_cons.1 hN).2 h2
      simp at this ⊢; omega
theorem sub_eq : ∀ {N M : List Ob}, Rising M → Rising N → M.length = N.length → (∀ p ∈ M, p ∈ N) → M = N
  | [], [], _, _, _, _ => rfl
  | [], a :: r, _, _, hl, _ => by simp at hl
  | b :: s, [], _, _, hl, _ => by simp at hl
  | b :: s, a :: r, hM, hN, hl, h => by
    rcases sub_step hM hN h with ⟨e, h2⟩ | h2
    · rw [e, sub_eq (List.pairwise_cons.1 hM).2 (List.pairwise_cons.1 hN).2 (by simpa using hl) h2]
    · have := sub_le hM (List.pairwise_cons.1 hN).2 h2
      simp at this hl; omega
theorem good_end {M N : List Ob} (hM : Rising M) (hN : Rising N) (hl : M.length = N.length) {left : Lit → Bool} (h : Good M N left) (hz : ∀ kl, left kl = false) : M = N :=
  sub_eq hM hN hl fun p hp => (look_some hN).1 (h p hp (hz _))
set_option maxHeartbeats 2000000 in
set_option maxRecDepth 20000 in
theorem mapsEq_any {w : World} {mo1 mo2 : Option Nat} {M N : List Ob} (h1 : MapV w mo1 M) (h2 : MapV w mo2 N) : Calls Try.prog 41 #[.map mo1, .map mo2] w fun e w' => e = .returned (.bool (decide (M = N))) ∧ Below w.heap.size w w' := by
  have HR := hid (show M.length ≠ N.length → decide (M = N) = false from fun h => decide_eq_false fun e => h (by rw [e]))
  have len : ∀ {mo : Option Nat} {L : List Ob}, MapV w mo L → ∀ ty, (Builtin.len_ #[58] ty #[.map mo]).run Try.prog w = .ok (.int .i64 (L.length : Int)) w := fun {mo L} hm ty => by
    cases mo with
    | none => rw [show L = [] from hm]; exact Maps.len_nil Try.underlying58 ty
    | some m => have := hm.1.len Try.underlying58 ty; rw [DM_size] at this; exact this
  have l1 := len h1
  have l2 := len h2
  have HM1 := hid h1.rising
  have HM2 := hid h2.rising
  clear len
  by_cases hl : M.length = N.length
  · have HL := hid hl
    rw [← hl] at l2
    clear hl
    cases mo1 with
    | none =>
      have hM : M = [] := h1
      have hE := hid (show decide (M = N) = true from decide_eq_true (by rw [hM]; exact (List.eq_nil_of_length_eq_zero (by rw [← HL.out, hM]; rfl)).symm))
      have hrg := run_range_nilMap (P := Try.prog) w 58 9 67 Try.underlying58
      have hnx : ∀ ty, (Instr.next (.pointer (some ⟨w.heap.size, 0, none⟩)) false ty).run Try.prog (w.alloc (.mapIter none 0 #[] 0)) = _ := fun ty => run_next_nilMap _ ty 0 0 #[]
      clear h1 h2 hM HR
      generalize M.length = L at *
      go_enter Try.func41, Try.ntmps41
      go_wp2_with fail
      refine wp_loop_rounds 1 ?_
      rw [rounds_succ]
      go_wp2_with fail
      go_ret
      exact ⟨by rw [hE.out]; rfl, boxed _ _⟩
    | some m =>
      have hown := h1.1
      have H2 := hid h2
      clear h1 h2 HR
      go_enter Try.func41, Try.ntmps41
      go_wp2_with (at_range; refine wpList_range_own _ rfl _ 58 rfl 9 67 key9 Try.underlying58 contR m _ (DM M) rfl hown ?_; intro w0 hrg0 hg0 hs0)
      go_frame
      go_loopw [16] (fun _ wx => ∃ (left : Lit → Bool) (cnt : Nat), wx.ranges Try.prog 9 contR m w.heap.size M.length (DM M) left cnt ∧ Hid (Good M N left) ∧ w.grownBy wx none) (fun _ wx => wx.rangeLeft m w.heap.size)
      case atStart => exact ⟨_, _, hrg0, hid (fun p hp hh => by rw [has_DM, (look_some HM1.out).2 (show (p.1, p.2) ∈ M from hp)] at hh; cases hh), hg0⟩
      case round =>
        obtain ⟨left, cnt, hrg, HG, hgw⟩ := hrel
        go_wp2_with (at_next; refine wpList_next_ranges _ rfl _ rfl 9 key9 contR Value.string (fun d => .agg #[.bool true, .string d]) (fun key kl hk => by obtain ⟨x, rfl, _⟩ := keyOf9_inv hk; exact ⟨x, rfl⟩) (fun v y hv => by obtain ⟨d, rfl, _⟩ := contR_inv hv; exact ⟨d, rfl⟩) m w.heap.size M.length _ _ _ rfl hrg ?_ ?_)
        · intro _ hl0
          have HE := hid (show decide (M = N) = true from decide_eq_true (good_end HM1.out HM2.out HL.out HG.out hl0))
          clear hl0 l1 l2
          go_wp2_with fail
          go_ret
          exact ⟨by rw [HE.out]; rfl, (Below.refl _ _).grown hgw (Nat.le_refl _) (fun j hj => by cases hj)⟩
        · intro n d kl yd yp w1 cnt1 hkey hlx hv hat hrg1 hlt hg1 hs1 hen
          have hnz : n.size ≤ maxLen := by
            have h9 := Try.underlying9
            simp [keyOf, h9, mapKey] at hkey
            exact hkey.1
          obtain ⟨n', e1, rfl⟩ := keyOf9_inv hkey
          cases e1
          obtain ⟨d', e2, e4⟩ := contR_inv hv
          simp only [Prod.mk.injEq] at e4
          obtain ⟨rfl, rfl⟩ := e4
          have e3 : d = d' := by simpa [cv] using e2
          subst e3
          have h0 := hat .nil
          rw [atKey_DM] at h0
          have hlk : look n M = some d := by
            cases hl : look n M with
            | none => rw [hl] at h0; cases h0
            | some d0 => rw [hl] at h0; rw [lit_inj h0]
          have hmem : (n, d) ∈ M := (look_some HM1.out).1 hlk
          have hgw1 : w.grownBy w1 none := hgw.andThen hg1 (fun j hj => by cases hj; exact Or.inl (Nat.le_refl _))
          have hMV2 : MapV w1 mo2 N := H2.out.block fun k _ hl => hgw1.block k hl (by simp)
          have hMVa : ∀ o, MapV (w1.alloc o) mo2 N := fun o => hMV2.block fun k _ hl => Below.heap_alloc _ _ _ hl
          have hlook := fun o => (hMVa o).look hnz true
          simp only [if_true] at hlook
          have HGd := hid (show look n N = some d → Good M N (fun z => left z && !z.sameKey (.string n.data.toList)) from fun e p hp hh => by
            simp only [same_str] at hh
            by_cases hpn : p.1 = n
            · have : p = (n, d) := rising_inj HM1.out hp hmem hpn
              rw [this]; exact e
            · simp [hpn] at hh; exact HG.out p hp hh)
          have HBd := hid (show look n N ≠ some d → decide (M = N) = false from fun e => decide_eq_false fun e2 => e (by rw [← e2]; exact hlk))
          have HRG1 := hid hrg1
          have HLT := hid hlt
          have HRG := hid hrg
          have HW1 := hid hgw1
          clear hkey hv hat h0 hlk hlx hrg1 hg1 hlt hgw hrg e2 hs1 l1 l2 hmem hMV2 hMVa hgw1
          have hfin : ∀ o o', Hid (w.grownBy ((w1.alloc o).alloc o') none) := fun o o' => hid ((HW1.out.andThen (World.grownBy_alloc w1 o none) (fun j hj => by cases hj)).andThen (World.grownBy_alloc _ o' none) (fun j hj => by cases hj))
          have hbel : ∀ o o', Hid (Below w.heap.size w ((w1.alloc o).alloc o')) := fun o o' => hid ((Below.refl _ _).grown (hfin o o').out (Nat.le_refl _) (fun j hj => by cases hj))
          cases hN : look n N with
          | none =>
            have HE := hid (HBd.out (by rw [hN]; simp))
            rw [hN, cv_none] at hlook
            simp only [Option.isSome_none] at hlook
            clear hN
            go_wp2_with fail
            go_ret
            exact ⟨by rw [HE.out]; rfl, (hbel _ _).out⟩
          | some d2 =>
            rw [hN, cv_some] at hlook
            simp only [Option.isSome_some] at hlook
            have hq : ∀ W, (binOp .neq 67 (.agg #[.bool true, .string d]) (.agg #[.bool true, .string d2])).run Try.prog W = .ok (.bool (!decide (d = d2))) W := fun W => by
              have := neq67 W (some d) (some d2)
              simpa [cv_some] using this
            have hgd := fun W a b => gd67 .neq W a b #[.bool true, .string d] #[.bool true, .string d2]
            by_cases hd : d = d2
            · subst hd
              have HS := hid (HGd.out hN)
              simp only [decide_true, Bool.not_true] at hq
              clear hN HGd HBd
              go_wp2_with fail
              refine ⟨⟨_, cnt1, (HRG1.out.alloc _).alloc _, HS, (hfin _ _).out⟩, by rw [((HRG1.out.alloc _).alloc _).left_eq, HRG.out.left_eq]; exact HLT.out⟩
            · have HE := hid (HBd.out (by rw [hN]; simp only [ne_eq, Option.some.injEq]; exact fun e => hd e.symm))
              rw [decide_eq_false hd] at hq
              simp only [Bool.not_false] at hq
              clear hN hd
              go_wp2_with fail
              go_ret
              exact ⟨by rw [HE.out]; rfl, (hbel _ _).out⟩
  · have q0 : ((M.length : Int) != (N.length : Int)) = true := by rw [bne_iff_ne]; omega
    have HE := hid (HR.out hl)
    generalize M.length = L1 at *
    generalize N.length = L2 at *
    clear h1 h2 HR hl
    go_enter Try.func41, Try.ntmps41
    go_wp2_with fail
    go_ret
    exact ⟨by rw [HE.out]; rfl, Below.refl _ _⟩
end Go.Proofs.Ytpeeelnkelnlkaa
