/- The contracts of Ends, and of what collects what an iterator tells. -/
import Derived.Test.YtjcanlopilifoaaRange
import Derived.Test.YtjcanlopilifoaaShelf
import Derived.Maps.AppendAt
namespace Go.Proofs.Ytjcanlopilifoaa
open Go.RowKit
open Gr
set_option linter.unusedVariables false
def nI (x : Nat) : Value := .int .i64 (x : Int)
theorem Try.info3 : (Try.prog.info? 3).map (fun i => (i.zero, i.size, i.bytes)) = some (some (.int .i64 0), 1, 8) := by kernel_rfl
theorem Try.info9 : (Try.prog.info? 9).map (fun i => (i.zero, i.size, i.bytes)) = some (some (.string ⟨#[]⟩), 1, 16) := by kernel_rfl
theorem row_mono {W : World} {b b' : Nat} {e : TypeId} {size : Nat} {v : Value} {k : Nat} {xs : List Value} (h : W.ownsRow b e size v k xs) (hb : b' ≤ b) : W.ownsRow b' e size v k xs := by
  refine ⟨h.1, ?_⟩
  rcases h.2 with hn | ⟨g, cap, cur, hv, hbg, rest⟩
  · exact .inl hn
  · exact .inr ⟨g, cap, cur, hv, Nat.le_trans hb hbg, rest⟩
theorem endings_any (s : ByteArray) (w : World) : Calls Try.prog 15 #[.string s] w fun e w' => e = .returned (.func (.func 19) #[] #[.pointer (some ⟨w.heap.size, 0, none⟩)]) ∧ w' = w.alloc (.cells #[.string s] 9) := by
  go_enter Try.func15, Try.ntmps15
  go_wp2_with fail
  go_ret
  exact ⟨rfl, rfl⟩
/-- what the row of numbers is, that grows in block q -/
def INum (q : Nat) (pre : List Nat) (W : World) : Prop := ∃ v, Boxed W q 27 v ∧ W.ownsRow q 3 1 v pre.length (pre.map nI)
theorem ends_len (s : ByteArray) : (ends (bs s)).length ≤ s.size := by have := run_len (bs s) 0 0 0; rw [bs_length] at this; exact this
set_option maxRecDepth 100000 in
set_option maxHeartbeats 4000000 in
theorem appendSeq_any (cb : Nat) (s : ByteArray) (hs : s.size ≤ 100000) (w : World) (hcb : Has w cb #[.string s] 9) :
    Calls Try.prog 23 #[.slice none 0 0, .func (.func 19) #[] #[.pointer (some ⟨cb, 0, none⟩)]] w fun e w' => ∃ v, e = .returned v ∧ w'.ownsRow w.heap.size 3 1 v (ends (bs s)).length ((ends (bs s)).map nI) ∧ Below w.heap.size w w' := by
  have hsa := @Oper.semAt_some
  obtain ⟨i0, hi, hz0, hz1, hz2⟩ := info_parts Try.info3
  refine (callsIn_wide (n := 6)).1 ?_
  refine callsIn_of_wp_marks Try.func23 rfl trivial ?_ rfl
  simp only [Try.ntmps23, List.size_toArray, List.length_cons, List.length_nil, Nat.reduceAdd, Nat.reduceSub, Array.replicate_succ, Array.replicate_zero, List.push_toArray, List.append_toArray, List.nil_append, List.cons_append]
  refine wpIn_wide.2 ?_
  go_wp2_with fail
  have bO := Boxed.new w 27 (.slice none 0 0)
  have hB0 : Below w.heap.size w (w.alloc (.cells #[.slice none 0 0] 27)) := (Below.refl _ w).alloc (Nat.le_refl _) _
  have hcl := hcb.lt
  refine wpIn_wide (n := 6).1 ?_
  refine rangeEnds (n := 6) (cb := cb) (s := s) (by omega) hs rfl rfl
    (fun pre W => INum w.heap.size pre W ∧ Below w.heap.size w W)
    (fun pre W h => hcb.below h.2 hcl)
    (fun o1 o2 => ⟨⟨_, (bO.alloc _).alloc _, World.ownsRow_nil _ _ _ _⟩, (hB0.alloc (by simp) _).alloc (by simp; omega) _⟩)
    (fun pre W k o o' hk ho hc h => ?_)
    (fun x => { tmps := #[.slice none 0 0, .func (.func 19) #[] #[.pointer (some ⟨cb, 0, none⟩)], .pointer (some ⟨w.heap.size, 0, none⟩), undef, .slice none 0 0, .int .i64 (x : Int), .func (.func 19) #[] #[.pointer (some ⟨cb, 0, none⟩)], .int .i64 (x : Int), undef, undef, undef, undef, undef], defers := [] }) ?assign ?body ?done
  · obtain ⟨⟨v, h1, h2⟩, h3⟩ := h
    have hk2 : w.heap.size + 1 ≤ k := by simp at hk; omega
    exact ⟨⟨v, h1.kept (grownBy_putObj' W k o) (by simp; omega), ownsRow_putObj h2 o ho hc⟩, h3.grown (grownBy_putObj' W k o) h3.size (fun j hj => by cases hj; omega)⟩
  case assign =>
    intro l x W K hK
    gi_wp2
    exact hK
  case body =>
    rintro l pre x W ⟨⟨v, hv, hrow⟩, hB⟩ hpre
    have hc := hv.cell
    have hpl := (ends_next hpre).2.2
    rw [bs_length] at hpl
    have hml : pre.length + 1 ≤ maxLen := by have : 1000000 ≤ maxLen := by decide
                                             omega
    gi_wp2_with (gi_at_builtin; refine wpListIn_append_own _ rfl _ _ 27 rfl w.heap.size 3 i0 (.int .i64 0) 1 8 Try.underlying27 hi hz0 hz1 hz2 rfl (by decide) _ _ _ rfl (hrow.alloc _) ⟨W.heap.size, 0, none⟩ 1 1 [.int .i64 (x : Int)] rfl rfl (cell_one_new _ _ _) (by simp [Value.oneCell']) (by omega) (by omega) (by have := hB.size; simp; omega) ?_; intro v' w1 hown' hgrow _; obtain ⟨g', cap', rfl⟩ := ownsRow_succ hown'; obtain ⟨hv1, hv2, hr2, hk2, hb2⟩ := hv.appended (by decide) hrow hB.size (Nat.le_refl _) hown' hgrow; have hc1 := hv1.cell; have hf1 := hv1.frozen)
    exact ⟨.inl hk2, ⟨_, hv2, by rw [List.length_append, List.map_append]; exact hr2⟩, hB.trans hb2⟩
  case done =>
    rintro W ⟨⟨v, hv, hrow⟩, hB⟩ hK
    have hc := hv.cell
    have HR := hid hrow
    have HK := hid hK
    have HB := hid hB
    clear hrow hK hB hv
    go_wp2_with fail
    refine ⟨by simp, .inl ⟨_, _, rfl, run_takeDeferred HK.out, ?_⟩⟩
    exact ⟨_, results_tmp rfl _ _ _, v, rfl, ownsRow_putObj HR.out _ HK.out rfl, HB.out.grown (grownBy_putObj' W _ _) HB.out.size (fun j hj => by cases hj; simp)⟩
theorem collect_any (cb : Nat) (s : ByteArray) (hs : s.size ≤ 100000) (w : World) (hcb : Has w cb #[.string s] 9) :
    Calls Try.prog 17 #[.func (.func 19) #[] #[.pointer (some ⟨cb, 0, none⟩)]] w fun e w' => ∃ v, e = .returned v ∧ w'.ownsRow w.heap.size 3 1 v (ends (bs s)).length ((ends (bs s)).map nI) ∧ Below w.heap.size w w' := by
  go_enter Try.func17, Try.ntmps17
  go_wp2_with fail
  refine (appendSeq_any cb s hs _ hcb).mono ?_
  rintro e w' ⟨v, rfl, h1, h2⟩
  go_wp2_with fail
  go_ret
  exact ⟨v, rfl, h1, h2⟩
theorem ends_any (s : ByteArray) (hs : s.size ≤ 100000) (w : World) :
    Calls Try.prog 12 #[.string s] w fun e w' => ∃ v, e = .returned v ∧ w'.ownsRow w.heap.size 3 1 v (ends (bs s)).length ((ends (bs s)).map nI) ∧ Below w.heap.size w w' := by
  go_enter Try.func12, Try.ntmps12
  go_wp2_with fail
  refine (endings_any s _).mono ?_
  rintro e w1 ⟨rfl, rfl⟩
  go_wp2_with fail
  refine (collect_any w.heap.size s hs _ (Has.new _ _ _ _ rfl)).mono ?_
  rintro e w2 ⟨v, rfl, h1, h2⟩
  go_wp2_with fail
  go_ret
  exact ⟨v, rfl, row_mono h1 (by simp), ((Below.refl _ w).alloc (Nat.le_refl _) _).trans (h2.mono (by simp))⟩
end Go.Proofs.Ytjcanlopilifoaa
