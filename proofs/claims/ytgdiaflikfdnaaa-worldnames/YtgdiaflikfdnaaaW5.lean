/- The program's world: Put and Del. -/
import Derived.Test.YtgdiaflikfdnaaaW4
namespace Go.Proofs.Ytgdiaflikfdnaaa
open Go.RowKit Go.Maps
variable {w w' w1 w2 : World} {S : Nat → Prop} {b g : Nat} {W W' : Wd}
section
variable {ev : Operand → Value} {o : Oper} {w : World} {x y : Operand}
theorem rn_load63 {g k : Nat} {v : Value} (ho : o.op = .load 48 x) (hx : ev x = .pointer (some ⟨g, k, none⟩)) (hc : w.cell? ⟨g, k, none⟩ = some v) : (execOp ev o).run Try.prog w = .ok (.value v) w := by
  simp [execOp, ho, hx, go_sem, hc]
theorem rn_f66_0 {g k : Nat} (ho : o.op = .fieldAddr 50 x 0) (hx : ev x = .pointer (some ⟨g, k, none⟩)) : (execOp ev o).run Try.prog w = .ok (.value (.pointer (some ⟨g, k, none⟩))) w := by
  simp [execOp, ho, hx, go_sem]
end
theorem countW_l (W : Wd) : (countW W).l = W.l := by
  unfold countW
  split
  · split <;> rfl
  · rfl
set_option maxRecDepth 20000 in
theorem alone_any (w : World) (F : Fn) (C : Array Value) : Calls Try.prog 30 #[.func F #[] C] w fun e w' => e = .returned (.func (.func 45) #[] #[.pointer (some ⟨w.heap.size, 0, none⟩)]) ∧ w' = w.alloc (.cells #[.func F #[] C] 68) := by
  go_enter Try.func30, Try.ntmps30
  go_wp2_with fail
  go_ret
  exact ⟨rfl, rfl⟩
set_option maxRecDepth 20000 in
theorem alone50 (w : World) (k : Value) (B1 B2 : Nat) (hB : w.cell? ⟨B1, 0, none⟩ = some (.func (.func 31) #[] #[.pointer (some ⟨B2, 0, none⟩)])) (hBl : B1 < w.heap.size) (Q : Int → World → Prop) (hf : ∀ w1, Below w.heap.size w w1 → Calls Try.prog 31 #[k, .pointer (some ⟨B2, 0, none⟩)] w1 fun e w' => ∃ z : Int, e = .returned (.int .i64 z) ∧ Q z w') : Calls Try.prog 45 #[k, .pointer (some ⟨B1, 0, none⟩)] w fun e w' => ∃ z : Int, e = .returned (.tuple #[.agg #[], .int .i64 z]) ∧ Q z w' := by
  have HF := hf _ (boxed w (.cells #[] 62))
  have c0 : (w.alloc (.cells #[] 62)).cell? ⟨B1, 0, none⟩ = some (.func (.func 31) #[] #[.pointer (some ⟨B2, 0, none⟩)]) := by rw [(boxed w (.cells #[] 62)).cell (p := ⟨B1, 0, none⟩) hBl]; exact hB
  clear hf hB hBl
  go_enter Try.func45, Try.ntmps45
  go_wp2_with fail
  refine HF.mono ?_
  clear HF
  rintro x w1 ⟨z, rfl, hq⟩
  have HQ := hid hq
  clear hq
  go_wp2_with fail
  exact ret82 rfl rfl rfl rfl ⟨z, rfl, HQ.out⟩
set_option maxRecDepth 20000 in
theorem alone65 (w : World) (k : Value) (B1 B2 : Nat) (hB : w.cell? ⟨B1, 0, none⟩ = some (.func (.func 35) #[] #[.pointer (some ⟨B2, 0, none⟩)])) (hBl : B1 < w.heap.size) (Q : Int → World → Prop) (hf : ∀ w1, Below w.heap.size w w1 → Calls Try.prog 35 #[k, .pointer (some ⟨B2, 0, none⟩)] w1 fun e w' => ∃ z : Int, e = .returned (.int .i64 z) ∧ Q z w') : Calls Try.prog 45 #[k, .pointer (some ⟨B1, 0, none⟩)] w fun e w' => ∃ z : Int, e = .returned (.tuple #[.agg #[], .int .i64 z]) ∧ Q z w' := by
  have HF := hf _ (boxed w (.cells #[] 62))
  have c0 : (w.alloc (.cells #[] 62)).cell? ⟨B1, 0, none⟩ = some (.func (.func 35) #[] #[.pointer (some ⟨B2, 0, none⟩)]) := by rw [(boxed w (.cells #[] 62)).cell (p := ⟨B1, 0, none⟩) hBl]; exact hB
  clear hf hB hBl
  go_enter Try.func45, Try.ntmps45
  go_wp2_with fail
  refine HF.mono ?_
  clear HF
  rintro x w1 ⟨z, rfl, hq⟩
  have HQ := hid hq
  clear hq
  go_wp2_with fail
  exact ret82 rfl rfl rfl rfl ⟨z, rfl, HQ.out⟩
def ptF (g j blk : Nat) (n d : ByteArray) (i : Nat) (v : Value) (_ : World) : Prop := match i with
  | 4 => v = .pointer (some ⟨g, j * 2, none⟩) | 5 => v = .pointer (some ⟨g, j * 2, none⟩) | 6 => v = .pointer (some ⟨g, j * 2, none⟩)
  | 7 => v = .pointer (some ⟨blk, 0, none⟩) | 8 => v = .agg #[.string n, .string d]
  | _ => True
def dlF (g j blk : Nat) (n : ByteArray) (i : Nat) (v : Value) (_ : World) : Prop := match i with
  | 4 => v = .pointer (some ⟨g, j * 2, none⟩) | 5 => v = .pointer (some ⟨g, j * 2, none⟩) | 6 => v = .pointer (some ⟨g, j * 2, none⟩)
  | 7 => v = .pointer (some ⟨blk, 0, none⟩) | 8 => v = .string n
  | _ => True
set_option maxHeartbeats 1000000 in
set_option maxRecDepth 20000 in
theorem put1_any (w : World) (j blk B2 : Nat) (n d : ByteArray) (c0 : w.cell? ⟨g, j * 2, none⟩ = some (.pointer (some ⟨blk, 0, none⟩))) (o0 : w.cell? ⟨B2, 0, none⟩ = some (.string n)) (o1 : w.cell? ⟨B2, 1, none⟩ = some (.string d)) (Q : Int → World → Prop) (hf : Calls Try.prog 32 #[.pointer (some ⟨blk, 0, none⟩), .agg #[.string n, .string d]] w.drew fun e w' => ∃ z : Int, e = .returned (.int .i64 z) ∧ Q z w') : Calls Try.prog 31 #[.pointer (some ⟨g, j * 2, none⟩), .pointer (some ⟨B2, 0, none⟩)] w fun e w' => ∃ z : Int, e = .returned (.int .i64 z) ∧ Q z w' := by
  go_enter Try.func31, Try.ntmps31
  go_wp2_with fail
  refine Tl.wp_mix_lit (by kernel_rfl) 5 [4, 5, 6, 7, 8] 10 rfl (by kernel_rfl) (AtW w.drew) (ptF g j blk n d) rfl
    ⟨fun a' W' hC hF => ?_, fun a' W' hC hF => ?_, fun a' W' hC hF => ?_, fun a' W' hC hF => ?_, fun a' W' hC hF => ?_, trivial⟩ ?_
  · exact Tl.sm_v 4 _ rfl (Tl.wanted_none rfl) hC rfl (rn_move rfl ((hF 0 (by decide +kernel)).2 (by decide)))
  · exact Tl.sm_v 5 _ rfl (Tl.wanted_none rfl) hC rfl (rn_nilCheck rfl ((hF 4 (by decide +kernel)).1 (by decide)))
  · exact Tl.sm_v 6 _ rfl (Tl.wanted_none rfl) hC rfl (rn_f66_0 rfl ((hF 5 (by decide +kernel)).1 (by decide)))
  · exact Tl.sm_v 7 _ rfl (Tl.wanted_none rfl) hC rfl (rn_load63 rfl ((hF 6 (by decide +kernel)).1 (by decide)) (by rw [show W' = _ from hC]; exact c0))
  · exact Tl.sm_v 8 _ rfl (Tl.wanted_none rfl) hC rfl (rn_load28 rfl ((hF 1 (by decide +kernel)).2 (by decide)) (by rw [show W' = _ from hC]; exact o0) (by rw [show W' = _ from hC]; exact o1))
  intro v wB hw hv
  obtain rfl : wB = _ := hw
  have v7 : v 7 = .pointer (some ⟨blk, 0, none⟩) := hv 7 (by decide)
  have v8 : v 8 = .agg #[.string n, .string d] := hv 8 (by decide)
  clear hv c0 o0 o1
  simp only [Tl.fill, List.drop_succ_cons, List.drop_zero]
  simp only [Act.put, List.setIfInBounds_toArray, List.set_cons_succ, List.set_cons_zero, v7, v8]
  clear v7 v8
  go_wp2_with fail
  refine hf.mono ?_
  clear hf
  rintro x w1 ⟨z, rfl, hq⟩
  have HQ := hid hq
  clear hq
  go_wp2_with fail
  go_ret
  exact ⟨z, rfl, HQ.out⟩
set_option maxHeartbeats 1000000 in
set_option maxRecDepth 20000 in
theorem del1_any (w : World) (j blk B2 : Nat) (n : ByteArray) (c0 : w.cell? ⟨g, j * 2, none⟩ = some (.pointer (some ⟨blk, 0, none⟩))) (o0 : w.cell? ⟨B2, 0, none⟩ = some (.string n)) (Q : Int → World → Prop) (hf : Calls Try.prog 36 #[.pointer (some ⟨blk, 0, none⟩), .string n] w.drew fun e w' => ∃ z : Int, e = .returned (.int .i64 z) ∧ Q z w') : Calls Try.prog 35 #[.pointer (some ⟨g, j * 2, none⟩), .pointer (some ⟨B2, 0, none⟩)] w fun e w' => ∃ z : Int, e = .returned (.int .i64 z) ∧ Q z w' := by
  go_enter Try.func35, Try.ntmps35
  go_wp2_with fail
  refine Tl.wp_mix_lit (by kernel_rfl) 5 [4, 5, 6, 7, 8] 10 rfl (by kernel_rfl) (AtW w.drew) (dlF g j blk n) rfl
    ⟨fun a' W' hC hF => ?_, fun a' W' hC hF => ?_, fun a' W' hC hF => ?_, fun a' W' hC hF => ?_, fun a' W' hC hF => ?_, trivial⟩ ?_
  · exact Tl.sm_v 4 _ rfl (Tl.wanted_none rfl) hC rfl (rn_move rfl ((hF 0 (by decide +kernel)).2 (by decide)))
  · exact Tl.sm_v 5 _ rfl (Tl.wanted_none rfl) hC rfl (rn_nilCheck rfl ((hF 4 (by decide +kernel)).1 (by decide)))
  · exact Tl.sm_v 6 _ rfl (Tl.wanted_none rfl) hC rfl (rn_f66_0 rfl ((hF 5 (by decide +kernel)).1 (by decide)))
  · exact Tl.sm_v 7 _ rfl (Tl.wanted_none rfl) hC rfl (rn_load63 rfl ((hF 6 (by decide +kernel)).1 (by decide)) (by rw [show W' = _ from hC]; exact c0))
  · exact Tl.sm_v 8 _ rfl (Tl.wanted_none rfl) hC rfl (rn_load9 rfl ((hF 1 (by decide +kernel)).2 (by decide)) (by rw [show W' = _ from hC]; exact o0))
  intro v wB hw hv
  obtain rfl : wB = _ := hw
  have v7 : v 7 = .pointer (some ⟨blk, 0, none⟩) := hv 7 (by decide)
  have v8 : v 8 = .string n := hv 8 (by decide)
  clear hv c0 o0
  simp only [Tl.fill, List.drop_succ_cons, List.drop_zero]
  simp only [Act.put, List.setIfInBounds_toArray, List.set_cons_succ, List.set_cons_zero, v7, v8]
  clear v7 v8
  go_wp2_with fail
  refine hf.mono ?_
  clear hf
  rintro x w1 ⟨z, rfl, hq⟩
  have HQ := hid hq
  clear hq
  go_wp2_with fail
  go_ret
  exact ⟨z, rfl, HQ.out⟩
/-- what is asked of a store, counted -/
def askS (W : Wd) (i : Int) (f : St → Int × St) : Int × Wd := if 0 ≤ i ∧ i < (W.l.length : Int) then (if (countW W).dark then (56, countW W) else match (countW W).l[i.toNat]? with
  | some x => ((f x.st).1, { countW W with l := (countW W).l.set i.toNat { x with st := (f x.st).2 } })
  | none => (56, countW W)) else (1, W)
theorem askS_no {W : Wd} {i : Int} {f : St → Int × St} (h : ¬ (0 ≤ i ∧ i < (W.l.length : Int))) : askS W i f = (1, W) := by unfold askS; rw [if_neg h]
theorem askS_dark {W : Wd} {i : Int} {f : St → Int × St} (h : 0 ≤ i ∧ i < (W.l.length : Int)) (hd : (countW W).dark = true) : askS W i f = (56, countW W) := by unfold askS; rw [if_pos h, if_pos hd]
theorem askS_does {W : Wd} {i : Int} {f : St → Int × St} (h : 0 ≤ i ∧ i < (W.l.length : Int)) (hd : (countW W).dark = false) : ∃ x, (countW W).l[i.toNat]? = some x ∧ x ∈ W.l ∧ askS W i f = ((f x.st).1, { countW W with l := (countW W).l.set i.toNat { x with st := (f x.st).2 } }) := by
  obtain ⟨x, hx⟩ : ∃ x, (countW W).l[i.toNat]? = some x := ⟨_, List.getElem?_eq_getElem (by rw [countW_l]; omega)⟩
  refine ⟨x, hx, by rw [countW_l] at hx; exact List.mem_of_getElem? hx, ?_⟩
  unfold askS
  rw [if_pos h, if_neg (by rw [hd]; decide), hx]
set_option maxHeartbeats 2000000 in
set_option maxRecDepth 20000 in
theorem wput_any (h : IsWd w S b g W) (hc : W.calls ≤ 1000000) (hl : W.left < 9223372036854775808) {N : Nat} (hF : ∀ x ∈ W.l, Fit N x.st) (hN : N ≤ 1000000) (i : Int) (n d : ByteArray) : Calls Try.prog 8 #[ptr b, .int .i64 i, obv n d] w fun e w' => e = .returned (er (askS W i fun s => putS s n d).1) ∧ AfterW w w' S b g (askS W i fun s => putS s n d).2 := by
  have HB := hid (boxed w (.cells #[.string n, .string d] 33))
  have HX := hid (Has.new w w.heap.size #[.string n, .string d] 33 rfl)
  have HH := hid (h.below HB.out)
  have HNS : Hid (¬ S w.heap.size) := hid fun hS => by have := h.bound _ hS; omega
  obtain ⟨wa, hwa⟩ : ∃ wa, wa = w.alloc (.cells #[.string n, .string d] 33) := ⟨_, rfl⟩
  rw [← hwa] at HB HX HH
  have HAL := alone_any wa (.func 31) #[.pointer (some ⟨w.heap.size, 0, none⟩)]
  have HASK := hid (ask48_any (HH.out.below (boxed wa (.cells #[.func (.func 31) #[] #[.pointer (some ⟨w.heap.size, 0, none⟩)]] 68))) hc hl i wa.heap.size (fun e w' => ∃ z : Int, e = .returned (.tuple #[.agg #[], .int .i64 z]) ∧ z = (askS W i fun s => putS s n d).1 ∧ AfterW w w' S b g (askS W i fun s => putS s n d).2)
    (fun h0 w1 hb => ⟨1, rfl, by rw [askS_no h0], by rw [askS_no h0]; exact AfterW.front HB.out ((AfterW.refl (HH.out.below (boxed wa _))).front (boxed wa _) |>.next hb)⟩)
    (fun h0 hd w1 ha => ⟨56, rfl, by rw [askS_dark h0 hd], by rw [askS_dark h0 hd]; exact AfterW.front HB.out (AfterW.front (boxed wa _) ha)⟩)
    (fun h0 hd w1 ha => by
      obtain ⟨x, hx, hxm, e⟩ := askS_does (f := fun s => putS s n d) h0 hd
      rw [e]
      have hbx : Has w1 wa.heap.size #[.func (.func 31) #[] #[.pointer (some ⟨w.heap.size, 0, none⟩)]] 68 := ha.has (Has.new wa _ _ _ rfl) fun hS => by
        have := HH.out.bound _ hS; omega
      have hob : Has w1 w.heap.size #[.string n, .string d] 33 := ha.has (HX.out.alloc _) HNS.out
      refine (alone50 w1 _ wa.heap.size w.heap.size (hbx.cell 0) hbx.lt (fun z w' => z = (putS x.st n d).1 ∧ AfterW w w' S b g { countW W with l := (countW W).l.set i.toNat { x with st := (putS x.st n d).2 } }) (fun w2 hb2 => ?_)).mono fun e w' ⟨z, h1, h2, h3⟩ => ⟨z, h1, z, h1, h2, h3⟩
      have ha2 := (AfterW.front HB.out (AfterW.front (boxed wa _) ha)).next hb2
      obtain ⟨S2, i2, s2, o2⟩ := ha2
      obtain ⟨c0, _, _⟩ := i2.kept hx
      have hob2 := hob.below hb2 hob.lt
      refine put1_any w2 i.toNat x.blk w.heap.size n d c0 (hob2.cell 0) (hob2.cell 1) _ ?_
      obtain ⟨T, t1, _, t3⟩ := (i2.below (Below.refl _ _).drew).call hx
      refine (put_any t1 (hF x hxm) hN n d).mono fun e w3 ⟨h1, h2⟩ => ⟨_, h1, rfl, AfterW.trans s2 o2 ?_⟩
      exact AfterW.front (Below.refl _ _).drew (t3 _ _ h2)))
  unfold ptr at *
  unfold obv er
  clear h hF hc hl
  go_enter Try.func8, Try.ntmps8
  go_wp2_with fail
  rw [← hwa]
  refine HAL.mono ?_
  clear HAL hwa
  rintro x w1 ⟨rfl, rfl⟩
  go_wp2_with fail
  refine HASK.out.mono ?_
  clear HASK
  rintro x w2 ⟨z, rfl, hz, ha⟩
  have HZ := hid hz
  have HA := hid ha
  clear hz ha
  go_wp2_with fail
  go_ret
  exact ⟨by rw [HZ.out]; rfl, HA.out.next (boxed _ _)⟩
end Go.Proofs.Ytgdiaflikfdnaaa
