/- What compares two places: by pack, then by At. -/
import Derived.Test.YtknddbmnciodaaaGreatOps
import Derived.Test.YtknddbmnciodaaaGreatLib
namespace Go.Proofs.YtknddbmnciodaaaGreat
open Go.RowKit Go.Lib Go.Sort
open Ix
set_option linter.unusedVariables false
/-- a world that has grown out of another one -/
def Gr (w W : World) : Prop := ∃ q os, W = grow (w.drewN q) os
theorem Gr.start (w : World) : Gr w w := ⟨0, #[], by rw [grow_empty]; rfl⟩
theorem Gr.drew {w W : World} (h : Gr w W) : Gr w W.drew := by
  obtain ⟨q, os, rfl⟩ := h
  exact ⟨q + 1, os, by rw [drew_grow]; rfl⟩
theorem Gr.alloc {w W : World} (h : Gr w W) (o : Obj) : Gr w (W.alloc o) := by
  obtain ⟨q, os, rfl⟩ := h
  exact ⟨q, os ++ #[o], by rw [alloc_eq_grow, grow_grow]⟩
theorem Gr.below {w W : World} (h : Gr w W) : RowKit.Below w.heap.size w W := by
  obtain ⟨q, os, rfl⟩ := h
  exact below_grown_sl _ w q os (Nat.le_refl _)
theorem Gr.cell {w W : World} (h : Gr w W) {b i : Nat} {v : Value} (hc : w.cell? ⟨b, i, none⟩ = some v) : W.cell? ⟨b, i, none⟩ = some v := by
  have hb := World.block_lt_of_cell? _ _ hc
  rw [h.below.cell (p := ⟨b, i, none⟩) hb]; exact hc
def ap1V (h : Nat) (r s a b z : Int) (x y : ByteArray) : Nat → Value
  | 5 => .pointer (some ⟨h, 0, none⟩)
  | 6 => .string x
  | 7 => .pointer (some ⟨h + 1, 0, none⟩)
  | 8 => .string y
  | 9 => .int .i64 r
  | 10 => .pointer (some ⟨h, 1, none⟩)
  | 11 => .int .i64 a
  | 12 => .pointer (some ⟨h + 1, 1, none⟩)
  | 13 => .int .i64 b
  | 14 => .int .i64 s
  | 16 => .int .i64 z
  | _ => undef
def ap1F (h : Nat) (r s a b z : Int) (x y : ByteArray) (d : Nat) (v : Value) (W : World) : Prop := match d with
  | 15 => ∃ g, v = .slice (some ⟨g, 0, none⟩) 2 2 ∧ Has W g #[.int .i64 r, .int .i64 s] 3
  | d => v = ap1V h r s a b z x y d
theorem ap1F_mono {h : Nat} {r s a b z : Int} {x y : ByteArray} {W W' : World} {e : Nat} (he : e = 15) : ∀ (d : Nat) (v : Value), d ≠ e → ap1F h r s a b z x y d v W → ap1F h r s a b z x y d v W' := fun d v hd hF => by
  subst he
  unfold ap1F at *
  split at hF
  · exact absurd rfl hd
  · exact hF
set_option maxRecDepth 20000 in
set_option maxHeartbeats 4000000 in
theorem apart1_any (p q : Pl) (W : World) : Calls Tryz.prog 49 #[.agg (pl3 p).toArray, .agg (pl3 q).toArray] W fun e w' => e = .returned (.int .i64 (cfP p q)) ∧ ∃ k os', w' = grow (W.drewN k) os' := by
  show Calls Tryz.prog 49 #[.agg #[.string p.pack, .int .i64 p.at_, .int .i64 p.len], .agg #[.string q.pack, .int .i64 q.at_, .int .i64 q.len]] W _
  have C1 := fun W => strCmp_any p.pack q.pack W
  have C2 := fun W => cmpInt_any p.at_ q.at_ W
  unfold cfP
  generalize cmpS p.pack q.pack = r at *
  generalize Lib.compareInt p.at_ q.at_ = s at *
  obtain ⟨z, hz⟩ : ∃ z, z = if r = 0 then s else r := ⟨_, rfl⟩
  have C3 : ∀ g W, Has W g #[.int .i64 r, .int .i64 s] 3 → Calls Tryz.prog 50 #[.slice (some ⟨g, 0, none⟩) 2 2] W fun e w' => e = .returned (.int .i64 z) ∧ w' = W := fun g W h => by rw [hz]; exact or_any r s g W h
  rw [← hz]
  clear hz
  generalize p.pack = x at *
  generalize q.pack = y at *
  generalize p.at_ = a at *
  generalize q.at_ = b at *
  obtain ⟨w1, hw1⟩ : ∃ w1, w1 = (W.alloc (.cells #[.string x, .int .i64 a, .int .i64 p.len] 24)).alloc (.cells #[.string y, .int .i64 b, .int .i64 q.len] 24) := ⟨_, rfl⟩
  obtain ⟨h, hh⟩ : ∃ h, h = W.heap.size := ⟨_, rfl⟩
  have n1 : Has w1 h #[.string x, .int .i64 a, .int .i64 p.len] 24 := by rw [hw1]; exact (Has.new W _ _ _ hh).alloc _
  have n2 : Has w1 (h + 1) #[.string y, .int .i64 b, .int .i64 q.len] 24 := by rw [hw1]; exact Has.new _ _ _ _ (by simp [hh])
  have hx0 : w1.cell? ⟨h, 0, none⟩ = some (.string x) := by rw [n1.cell]; rfl
  have hx1 : w1.cell? ⟨h, 1, none⟩ = some (.int .i64 a) := by rw [n1.cell]; rfl
  have hy0 : w1.cell? ⟨h + 1, 0, none⟩ = some (.string y) := by rw [n2.cell]; rfl
  have hy1 : w1.cell? ⟨h + 1, 1, none⟩ = some (.int .i64 b) := by rw [n2.cell]; rfl
  have HG : Hid (∀ V, Gr w1 V → ∃ k os', V = grow (W.drewN k) os') := hid (fun V hV => by
    obtain ⟨k, os, rfl⟩ := hV
    refine ⟨k, #[.cells #[.string x, .int .i64 a, .int .i64 p.len] 24, .cells #[.string y, .int .i64 b, .int .i64 q.len] 24] ++ os, ?_⟩
    rw [hw1, alloc_eq_grow, alloc_eq_grow, grow_grow]
    show grow (grow (W.drewN k) _) os = _
    rw [grow_grow]; rfl)
  clear n1 n2
  go_enter Tryz.func49, Tryz.ntmps49
  go_wp2_with fail
  rw [← hw1, ← hh]
  clear hw1 hh
  refine Tl.wp_mix_lit (by kernel_rfl) 12 [5, 6, 7, 8, 9, 10, 11, 12, 13, 14, 15, 16] 17 rfl (by kernel_rfl) (fun W => Gr w1 W) (ap1F h r s a b z x y) ((Gr.start w1).drew)
    ⟨fun a' W' hC hF => ?_, fun a' W' hC hF => ?_, fun a' W' hC hF => ?_, fun a' W' hC hF => ?_, fun a' W' hC hF => ?_, fun a' W' hC hF => ?_, fun a' W' hC hF => ?_, fun a' W' hC hF => ?_, fun a' W' hC hF => ?_, fun a' W' hC hF => ?_, fun a' W' hC hF => ?_, fun a' W' hC hF => ?_, trivial⟩ ?_
  · exact Tl.sm_v 5 _ rfl (Tl.wanted_none rfl) hC rfl (rn_fa37_0 rfl ((hF 2 (by decide +kernel)).2 (by decide)))
  · exact Tl.sm_v 6 _ rfl (Tl.wanted_none rfl) hC rfl (rn_load9 rfl (show Act.eval a' (.tmp 5) = .pointer (some ⟨h, 0, none⟩) from ((hF 5 (by decide +kernel)).1 (by decide))) (hC.cell hx0))
  · exact Tl.sm_v 7 _ rfl (Tl.wanted_none rfl) hC rfl (rn_fa37_0 rfl ((hF 3 (by decide +kernel)).2 (by decide)))
  · exact Tl.sm_v 8 _ rfl (Tl.wanted_none rfl) hC rfl (rn_load9 rfl (show Act.eval a' (.tmp 7) = .pointer (some ⟨h + 1, 0, none⟩) from ((hF 7 (by decide +kernel)).1 (by decide))) (hC.cell hy0))
  · refine Tl.sm_call 51 #[_, _] (Tl.wanted_none rfl) (rn_call2 rfl rfl (show Act.eval a' (.tmp 6) = .string x from ((hF 6 (by decide +kernel)).1 (by decide))) (show Act.eval a' (.tmp 8) = .string y from ((hF 8 (by decide +kernel)).1 (by decide))) (en57 _ _)) ((C1 W').mono ?_)
    rintro e W'' ⟨rfl, rfl⟩
    exact ⟨_, rfl, hC, fun d v _ h => h, fun d hd => by cases hd; rfl⟩
  · exact Tl.sm_v 10 _ rfl (Tl.wanted_none rfl) hC rfl (rn_fa37_1 rfl ((hF 2 (by decide +kernel)).2 (by decide)))
  · exact Tl.sm_v 11 _ rfl (Tl.wanted_none rfl) hC rfl (rn_load3 rfl (show Act.eval a' (.tmp 10) = .pointer (some ⟨h, 1, none⟩) from ((hF 10 (by decide +kernel)).1 (by decide))) (hC.cell hx1))
  · exact Tl.sm_v 12 _ rfl (Tl.wanted_none rfl) hC rfl (rn_fa37_1 rfl ((hF 3 (by decide +kernel)).2 (by decide)))
  · exact Tl.sm_v 13 _ rfl (Tl.wanted_none rfl) hC rfl (rn_load3 rfl (show Act.eval a' (.tmp 12) = .pointer (some ⟨h + 1, 1, none⟩) from ((hF 12 (by decide +kernel)).1 (by decide))) (hC.cell hy1))
  · refine Tl.sm_call 41 #[_, _] (Tl.wanted_none rfl) (rn_call2 rfl rfl (show Act.eval a' (.tmp 11) = .int .i64 a from ((hF 11 (by decide +kernel)).1 (by decide))) (show Act.eval a' (.tmp 13) = .int .i64 b from ((hF 13 (by decide +kernel)).1 (by decide))) (en42 _ _)) ((C2 W').mono ?_)
    rintro e W'' ⟨rfl, rfl⟩
    exact ⟨_, rfl, hC, fun d v _ h => h, fun d hd => by cases hd; rfl⟩
  · refine Tl.sm_w _ (Tl.wanted_none rfl) (rn_bs108 rfl (show Act.eval a' (.tmp 9) = .int .i64 r from ((hF 9 (by decide +kernel)).1 (by decide))) (show Act.eval a' (.tmp 14) = .int .i64 s from ((hF 14 (by decide +kernel)).1 (by decide)))) (hC.alloc _) (fun d v hd h => ap1F_mono (e := 15) rfl d v (fun e => hd (by rw [e])) h) (fun d hd => ?_)
    cases hd
    exact ⟨_, rfl, Has.new _ _ _ _ rfl⟩
  · obtain ⟨g, eg, hg⟩ := (show ap1F h r s a b z x y 15 (a'.tmps.getD 15 undef) W' from ((hF 15 (by decide +kernel)).1 (by decide)))
    refine Tl.sm_call 50 #[_] (Tl.wanted_none rfl) (rn_call1 rfl rfl eg (en56 _ _)) ((C3 g W' hg).mono ?_)
    rintro e W'' ⟨rfl, rfl⟩
    exact ⟨_, rfl, hC, fun d v _ h => h, fun d hd => by cases hd; rfl⟩
  intro v' w2 hC hv
  have e16 : v' 16 = .int .i64 z := hv 16 (by decide)
  clear hv
  simp only [Tl.fill, List.drop]
  simp only [Act.put, List.setIfInBounds_toArray, List.set_cons_succ, List.set_cons_zero, e16]
  go_wp2_with fail
  go_ret
  exact ⟨rfl, HG.out _ hC⟩
end Go.Proofs.YtknddbmnciodaaaGreat

