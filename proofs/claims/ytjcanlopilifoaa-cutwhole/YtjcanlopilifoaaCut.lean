/- The contract of Cut. -/
import Derived.Test.YtjcanlopilifoaaEnds
import Derived.Test.YtjcanlopilifoaaTlI
namespace Go.Proofs.Ytjcanlopilifoaa
open Go.RowKit
open Gr
set_option linter.unusedVariables false
/-- the chunks that end there -/
def cuts (s : ByteArray) : Nat → List Nat → List ByteArray
  | _, [] => []
  | b, x :: r => s.extract b x :: cuts s x r
theorem cuts_snoc (s : ByteArray) (l : List Nat) : ∀ (b x : Nat), cuts s b (l ++ [x]) = cuts s b l ++ [s.extract (lastE b l) x] := by
  induction l with
  | nil => intro b x; rfl
  | cons y r ih => intro b x; show s.extract b y :: cuts s y (r ++ [x]) = _; rw [ih]; rfl
theorem cuts_len (s : ByteArray) (l : List Nat) : ∀ b, (cuts s b l).length = l.length := by
  induction l with
  | nil => intro b; rfl
  | cons y r ih => intro b; show (cuts s y r).length + 1 = _; rw [ih]; rfl
def chunks (s : ByteArray) : List ByteArray := cuts s 0 (ends (bs s))
theorem chunks_len (s : ByteArray) : (chunks s).length = (ends (bs s)).length := cuts_len s _ 0
section
variable {ev : Operand → Value} {o : Oper} {w : World} {x y : Operand}
theorem rn_move {v : Value} (ho : o.op = .move x) (hx : ev x = v) : (execOp ev o).run Try.prog w = .ok (.value v) w := by
  subst hx; simp [execOp, ho, go_sem]
theorem rn_load3 {g k : Nat} {v : Value} (ho : o.op = .load 3 x) (hx : ev x = .pointer (some ⟨g, k, none⟩)) (hc : w.cell? ⟨g, k, none⟩ = some v) : (execOp ev o).run Try.prog w = .ok (.value v) w := by
  simp [execOp, ho, hx, go_sem, hc]
theorem rn_load9 {g k : Nat} {v : Value} (ho : o.op = .load 9 x) (hx : ev x = .pointer (some ⟨g, k, none⟩)) (hc : w.cell? ⟨g, k, none⟩ = some v) : (execOp ev o).run Try.prog w = .ok (.value v) w := by
  simp [execOp, ho, hx, go_sem, hc]
theorem rn_load24 {g k : Nat} {v : Value} (ho : o.op = .load 24 x) (hx : ev x = .pointer (some ⟨g, k, none⟩)) (hc : w.cell? ⟨g, k, none⟩ = some v) : (execOp ev o).run Try.prog w = .ok (.value v) w := by
  simp [execOp, ho, hx, go_sem, hc]
theorem rn_sl9 {A : ByteArray} {z : Operand} {lo hi : Nat} (ho : o.op = .slice 9 x (some y) (some z) none) (hx : ev x = .string A) (hy : ev y = .int .i64 (lo : Int)) (hz : ev z = .int .i64 (hi : Int)) (h1 : lo ≤ hi) (h2 : hi ≤ A.size) : (execOp ev o).run Try.prog w = .ok (.value (.string (A.extract lo hi))) w := by
  have q1 : (lo : Int) ≤ (hi : Int) := by omega
  have q2 : (hi : Int) ≤ (A.size : Int) := by omega
  simp [execOp, ho, hx, hy, hz, go_sem, q1, q2]
theorem rn_bs24 {p : ByteArray} (ho : o.op = .buildSlice 24 1 #[(0, x)]) (hx : ev x = .string p) : (execOp ev o).run Try.prog w = .ok (.value (.slice (some ⟨w.heap.size, 0, none⟩) 1 1)) (w.alloc (.cells #[.string p] 9)) := by
  simp [execOp, ho, hx, go_sem]
theorem rn_call1 {t : TypeId} {u : Value} {f : Operand} {F : Nat} (ho : o.op = .call { callee := .value f, args := #[x], argTypes := #[t] }) (hf : ev f = .func (.func F) #[] #[]) (hx : ev x = u) (he : (callFunc F #[u]).run Try.prog w = .ok (.enter F #[u]) w) : (execOp ev o).run Try.prog w = .ok (.enter F #[u]) w := by
  simp [execOp, ho, hf, hx, go_sem, he]
theorem en16 (args : Array Value) (w : World) : (callFunc 16 args).run Try.prog w = .ok (.enter 16 args) w := by kernel_rfl
end
/-- what each slot of the drawn part holds -/
def cuF (v0 : Value) (s : ByteArray) (b x z : Nat) (i : Nat) (v : Value) (W : World) : Prop := match i with
  | 9 => v = v0 | 10 => v = .string s | 11 => v = .int .i64 (b : Int) | 12 => v = .int .i64 (x : Int) | 13 => v = .string (s.extract b x) | 14 => v = .string (s.extract b x)
  | 15 => ∃ g, v = .slice (some ⟨g, 0, none⟩) 1 1 ∧ z ≤ g ∧ Has W g #[.string (s.extract b x)] 9
  | _ => True
theorem cuF_below {v0 : Value} {s : ByteArray} {b x z i : Nat} {v : Value} {W W' : World} (h : cuF v0 s b x z i v W) (hb : Below W.heap.size W W') : cuF v0 s b x z i v W' := by
  unfold cuF at h ⊢
  split at h <;> first | exact h | (obtain ⟨g, h1, h2, h3⟩ := h; exact ⟨g, h1, h2, h3.below hb h3.lt⟩)
theorem row_below {W W' : World} {b : Nat} {e : TypeId} {size : Nat} {v : Value} {k : Nat} {xs : List Value} (h : W.ownsRow b e size v k xs) (hb : Below W.heap.size W W') : W'.ownsRow b e size v k xs := by
  refine ⟨h.1, ?_⟩
  rcases h.2 with hn | ⟨g, cap, cur, hv, hbg, hh, rest⟩
  · exact .inl hn
  · exact .inr ⟨g, cap, cur, hv, hbg, (hb.block g (Array.getElem?_eq_some_iff.1 hh).1).trans hh, rest⟩
theorem row_set {W : World} {b : Nat} {e : TypeId} {size : Nat} {v : Value} {k : Nat} {xs : List Value} (h : W.ownsRow b e size v k xs) (j i : Nat) (u : Value) (hj : j < b) : (W.setCell ⟨j, i, none⟩ u).ownsRow b e size v k xs := by
  refine ⟨h.1, ?_⟩
  rcases h.2 with hn | ⟨g, cap, cur, hv, hbg, hh, rest⟩
  · exact .inl hn
  · exact .inr ⟨g, cap, cur, hv, hbg, (Below.heap_setCell _ _ _ _ (by show g ≠ j; omega)).trans hh, rest⟩
/-- what stands while one cuts: q is the first new block -/
structure CI (s : ByteArray) (q : Nat) (w : World) (pre : List Nat) (v : Value) (W : World) : Prop where
  d0 : Has W q #[.string s] 9
  d1 : Has W (q + 1) #[v] 24
  d2 : Has W (q + 2) #[.int .i64 (lastE 0 pre : Int)] 3
  d3 : Has W (q + 3) #[.string s] 9
  row : W.ownsRow (q + 6) 9 1 v pre.length ((cuts s 0 pre).map Value.string)
  old : Below q w W
  sz : q + 6 ≤ W.heap.size
set_option maxRecDepth 100000 in
set_option maxHeartbeats 8000000 in
theorem cut_any (s : ByteArray) (hs : s.size ≤ 100000) (w : World) :
    Calls Try.prog 9 #[.string s] w fun e w' => ∃ v, e = .returned v ∧ w'.ownsRow w.heap.size 9 1 v (chunks s).length ((chunks s).map Value.string) ∧ Below w.heap.size w w' := by
  have hsa := @Oper.semAt_some
  obtain ⟨i0, hi, hz0, hz1, hz2⟩ := info_parts Try.info9
  refine (callsIn_wide (n := 6)).1 ?_
  refine callsIn_of_wp_marks Try.func9 rfl trivial ?_ rfl
  simp only [Try.ntmps9, List.size_toArray, List.length_cons, List.length_nil, Nat.reduceAdd, Nat.reduceSub, Array.replicate_succ, Array.replicate_zero, List.push_toArray, List.append_toArray, List.nil_append, List.cons_append]
  refine wpIn_wide.2 ?_
  go_wp2_with fail
  refine (endings_any s _).mono ?_
  rintro e w1 ⟨rfl, rfl⟩
  go_wp2_with fail
  obtain ⟨q, hq⟩ : ∃ q, q = w.heap.size := ⟨_, rfl⟩
  obtain ⟨W2, hW2⟩ : ∃ W2, W2 = (((w.alloc (.cells #[.string s] 9)).alloc (.cells #[.slice none 0 0] 24)).alloc (.cells #[.int .i64 0] 3)).alloc (.cells #[.string s] 9) := ⟨_, rfl⟩
  have hs2 : W2.heap.size = q + 4 := by rw [hW2, hq]; simp
  have hb2 : Below q w W2 := by rw [hW2, hq]; exact ((((Below.refl _ _).alloc (Nat.le_refl _) _).alloc (by simp) _).alloc (by simp; omega) _).alloc (by simp; omega) _
  have k0 : Has W2 q #[.string s] 9 := by rw [hW2]; exact (((Has.new w q _ _ hq).alloc _).alloc _).alloc _
  have k1 : Has W2 (q + 1) #[.slice none 0 0] 24 := by rw [hW2]; exact ((Has.new _ (q + 1) _ _ (by simp [hq])).alloc _).alloc _
  have k2 : Has W2 (q + 2) #[.int .i64 0] 3 := by rw [hW2]; exact (Has.new _ (q + 2) _ _ (by simp [hq])).alloc _
  have k3 : Has W2 (q + 3) #[.string s] 9 := by rw [hW2]; exact Has.new _ (q + 3) _ _ (by simp [hq])
  rw [← hW2]
  simp only [← hq]
  have HQ := hid hq
  clear hW2 hq
  refine wpIn_wide (n := 6).1 ?_
  refine rangeEnds (n := 6) (cb := q + 3) (s := s) (by omega) hs rfl rfl
    (fun pre W => ∃ v, CI s q w pre v W)
    (fun pre W h => by obtain ⟨v, h⟩ := h; exact h.d3)
    (fun o1 o2 => ⟨_, (k0.alloc _).alloc _, (k1.alloc _).alloc _, (k2.alloc _).alloc _, (k3.alloc _).alloc _, World.ownsRow_nil _ _ _ _, (hb2.alloc (by omega) _).alloc (by simp; omega) _, by simp; omega⟩)
    (fun pre W k o o' hk ho hc h => ?_)
    (fun x => { tmps := #[.string s, .pointer (some ⟨q, 0, none⟩), .slice none 0 0, .pointer (some ⟨q + 1, 0, none⟩), .pointer (some ⟨q + 2, 0, none⟩), .int .i64 (x : Int), .string s, .func (.func 19) #[] #[.pointer (some ⟨q + 3, 0, none⟩)], .int .i64 (x : Int), undef, undef, undef, undef, undef, undef, undef, undef, undef, undef], defers := [] }) ?assign ?body ?done
  · obtain ⟨v, h⟩ := h
    have hk2 : q + 4 ≤ k := by omega
    have ho1 : ∀ j, j < q + 4 → ∀ cs t, Has W j cs t → Has (W.putObj k o) j cs t := fun j hj cs t hh => by
      unfold Has at hh ⊢
      exact (World.putObj_heap_other (by omega)).trans hh
    exact ⟨v, ho1 _ (by omega) _ _ h.d0, ho1 _ (by omega) _ _ h.d1, ho1 _ (by omega) _ _ h.d2, ho1 _ (by omega) _ _ h.d3, ownsRow_putObj h.row o ho hc, h.old.grown (grownBy_putObj' W k o) (by have := h.d0.lt; omega) (fun j hj => by cases hj; omega), Nat.le_trans h.sz (grownBy_putObj' W k o).size⟩
  case assign =>
    intro l x W K hK
    gi_wp2
    exact hK
  case body =>
    rintro l pre x W ⟨v, hC⟩ hpre
    obtain ⟨hp1, hp2, hpl⟩ := ends_next hpre
    rw [bs_length] at hpl hp2
    have hml : pre.length + 1 ≤ maxLen := by
      have : 1000000 ≤ maxLen := by decide
      omega
    have c0 : W.cell? ⟨q, 0, none⟩ = some (.string s) := hC.d0.cell 0
    have c1 : W.cell? ⟨q + 1, 0, none⟩ = some v := hC.d1.cell 0
    have c2 : W.cell? ⟨q + 2, 0, none⟩ = some (.int .i64 (lastE 0 pre : Int)) := hC.d2.cell 0
    have l0 := hC.d0.lt
    have l1 := hC.d1.lt
    have l2 := hC.d2.lt
    have HC := hid hC
    have HP := hid hpre
    obtain ⟨b, hb⟩ : ∃ b, b = lastE 0 pre := ⟨_, rfl⟩
    rw [← hb] at c2 hp1
    have HBE := hid hb
    clear hC hpre hb
    gi_wp2_with fail
    refine Tl.wpIn_mix_lit (by kernel_rfl) 7 [9, 10, 11, 12, 13, 14, 15] 19 rfl (by kernel_rfl) (Below W.heap.size W) (cuF v s b x W.heap.size) ((Below.refl _ _).drew)
      ⟨fun a' W' hC hF => ?_, fun a' W' hC hF => ?_, fun a' W' hC hF => ?_, fun a' W' hC hF => ?_, fun a' W' hC hF => ?_, fun a' W' hC hF => ?_, fun a' W' hC hF => ?_, trivial⟩ ?_
    · exact Tl.si_v 9 _ rfl (by intro c h; cases h) (Tl.wanted_none rfl) hC rfl (rn_load24 rfl ((hF 3 (by decide +kernel)).2 (by decide)) ((hC.cell (p := ⟨q + 1, 0, none⟩) l1).trans c1))
    · exact Tl.si_v 10 _ rfl (by intro c h; cases h) (Tl.wanted_none rfl) hC rfl (rn_load9 rfl ((hF 1 (by decide +kernel)).2 (by decide)) ((hC.cell (p := ⟨q, 0, none⟩) l0).trans c0))
    · exact Tl.si_v 11 _ rfl (by intro c h; cases h) (Tl.wanted_none rfl) hC rfl (rn_load3 rfl ((hF 4 (by decide +kernel)).2 (by decide)) ((hC.cell (p := ⟨q + 2, 0, none⟩) l2).trans c2))
    · exact Tl.si_v 12 _ rfl (by intro c h; cases h) (Tl.wanted_none rfl) hC rfl (rn_move rfl ((hF 5 (by decide +kernel)).2 (by decide)))
    · exact Tl.si_v 13 _ rfl (by intro c h; cases h) (Tl.wanted_none rfl) hC rfl (rn_sl9 rfl ((hF 10 (by decide +kernel)).1 (by decide)) ((hF 11 (by decide +kernel)).1 (by decide)) ((hF 12 (by decide +kernel)).1 (by decide)) (by omega) (by omega))
    · refine Tl.si_call 16 #[_] (by intro c h; cases h) (Tl.wanted_none rfl) (rn_call1 rfl rfl ((hF 13 (by decide +kernel)).1 (by decide)) (en16 _ _)) ((clone_any (s.extract b x) W' (by simp; omega)).mono ?_)
      rintro e w'' ⟨rfl, hb⟩
      exact ⟨_, rfl, hC.trans (hb.mono hC.size), fun d v _ h => cuF_below h hb, fun d hd => by cases hd; exact rfl⟩
    · refine Tl.si_w _ (by intro c h; cases h) (Tl.wanted_none rfl) (rn_bs24 rfl ((hF 14 (by decide +kernel)).1 (by decide))) (hC.alloc hC.size _) (fun d v _ h => cuF_below h ((Below.refl _ _).alloc (Nat.le_refl _) _)) (fun d hd => by cases hd; exact ⟨_, rfl, hC.size, Has.new _ _ _ _ rfl⟩)
    intro v' W3 hB3 hv
    have v9 : v' 9 = v := hv 9 (by decide)
    obtain ⟨g, v15, hg, hG⟩ : ∃ g, v' 15 = .slice (some ⟨g, 0, none⟩) 1 1 ∧ W.heap.size ≤ g ∧ Has W3 g #[.string (s.extract b x)] 9 := hv 15 (by decide)
    clear hv
    simp only [Tl.fill, List.drop_succ_cons, List.drop_zero]
    simp only [Act.put, List.setIfInBounds_toArray, List.set_cons_succ, List.set_cons_zero, v9, v15]
    generalize v' 10 = z10 at *
    generalize v' 11 = z11 at *
    generalize v' 12 = z12 at *
    generalize v' 13 = z13 at *
    generalize v' 14 = z14 at *
    clear v9 v15
    have HS5 := HC.out.sz
    have HR3 := row_below HC.out.row hB3
    have hgc : ∀ j u, [Value.string (s.extract b x)][j]? = some u → W3.cell? ((⟨g, 0, none⟩ : Addr).add j) = some u := by
      intro j u hu
      have e : (⟨g, 0, none⟩ : Addr).add j = ⟨g, j, none⟩ := by unfold Addr.add; split <;> simp_all
      rw [e, hG.cell j]
      simpa using hu
    have hsz3 := hB3.size
    have D1 := hid (HC.out.d1.below hB3 HC.out.d1.lt)
    have D2 := hid (HC.out.d2.below hB3 HC.out.d2.lt)
    have HB3 := hid hB3
    have HHR := hid (fun k hk => (HR3.lt k hk).1)
    clear hB3 hG
    gi_wp2_with (gi_at_builtin; refine wpListIn_append_own _ rfl _ _ 24 rfl (q + 6) 9 i0 (.string ⟨#[]⟩) 1 16 Try.underlying24 hi hz0 hz1 hz2 rfl (by decide) v pre.length _ rfl HR3 ⟨g, 0, none⟩ 1 1 [.string (s.extract b x)] rfl rfl hgc (by simp [Value.oneCell']) (by omega) (by omega) (by omega) ?_; intro v' w1 hown' hgrow _; obtain ⟨g', cap', rfl⟩ := ownsRow_succ hown'; have hB4 : Below (q + 6) W3 w1 := (Below.refl _ _).grown hgrow (by omega) HHR.out; have E1 := D1.out.below hB4 (by omega); have E2 := D2.out.below hB4 (by omega); have e1 := E1.cell 0; have e2 := E1.frozen 0; have e3 := E2.cell 0; have e4 := E2.frozen 0; have HG := hid hgrow; clear hgrow)
    have hBW : Below (q + 6) W w1 := (HB3.out.mono HS5).trans hB4
    obtain ⟨W4, hW4⟩ : ∃ W4, W4 = w1.setCell ⟨q + 1, 0, none⟩ (.slice (some ⟨g', 0, none⟩) (pre.length + 1) cap') := ⟨_, rfl⟩
    obtain ⟨W5, hW5⟩ : ∃ W5, W5 = W4.setCell ⟨q + 2, 0, none⟩ (.int .i64 (x : Int)) := ⟨_, rfl⟩
    rw [← hW4, ← hW5]
    have hne : ∀ k, k ≠ q + 1 → k ≠ q + 2 → W5.heap[k]? = w1.heap[k]? := fun k h1 h2 => by
      rw [hW5, Below.heap_setCell _ _ _ _ h2, hW4, Below.heap_setCell _ _ _ _ h1]
    have hst : ∀ k, k < q + 6 → k ≠ q + 1 → k ≠ q + 2 → W5.heap[k]? = W.heap[k]? := fun k h0 h1 h2 => (hne k h1 h2).trans (hBW.block k h0)
    have F1 : Has W4 (q + 1) #[.slice (some ⟨g', 0, none⟩) (pre.length + 1) cap'] 24 := by rw [hW4]; exact E1.set 0 _
    have F2 : Has W4 (q + 2) #[.int .i64 (lastE 0 pre : Int)] 3 := by rw [hW4]; exact E2.other ⟨q + 1, 0, none⟩ _ (by show q + 2 ≠ q + 1; omega)
    refine ⟨.inr fun k hk => hst k (by omega) (by omega) (by omega), .slice (some ⟨g', 0, none⟩) (pre.length + 1) cap', ?_, ?_, ?_, ?_, ?_, ?_, ?_⟩
    · exact (hst q (by omega) (by omega) (by omega)).trans HC.out.d0
    · rw [hW5]; exact F1.other ⟨q + 2, 0, none⟩ _ (by show q + 1 ≠ q + 2; omega)
    · rw [hW5, lastE_snoc]; exact F2.set 0 _
    · exact (hst (q + 3) (by omega) (by omega) (by omega)).trans HC.out.d3
    · rw [hW5, hW4, cuts_snoc, List.map_append, List.length_append, ← HBE.out]
      exact row_set (row_set hown' (q + 1) 0 _ (by omega)) (q + 2) 0 _ (by omega)
    · rw [hW5, hW4]
      exact ((HC.out.old.trans (hBW.mono (by omega))).setCell (p := ⟨q + 1, 0, none⟩) (by show q ≤ q + 1; omega) _).setCell (p := ⟨q + 2, 0, none⟩) (by show q ≤ q + 2; omega) _
    · rw [hW5, hW4]
      have := hBW.size
      simp [World.setCell]; omega
  case done =>
    rintro W ⟨v, hC⟩ hK
    have c1 : W.cell? ⟨q + 1, 0, none⟩ = some v := hC.d1.cell 0
    have HC := hid hC
    have HK := hid hK
    clear hC hK
    go_wp2_with fail
    refine ⟨by simp, .inl ⟨_, _, rfl, run_takeDeferred HK.out, ?_⟩⟩
    refine ⟨_, results_tmp rfl _ _ _, v, rfl, ?_, ?_⟩
    · rw [chunks_len]
      exact row_mono (ownsRow_putObj HC.out.row _ HK.out rfl) (by have := HQ.out; omega)
    · rw [← HQ.out]
      exact HC.out.old.grown (grownBy_putObj' W _ _) (by have := HC.out.sz; omega) (fun j hj => by cases hj; omega)
end Go.Proofs.Ytjcanlopilifoaa
