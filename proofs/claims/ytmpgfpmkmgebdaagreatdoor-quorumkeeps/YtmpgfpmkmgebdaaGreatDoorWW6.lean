/- The program's world: Put and Del. -/
import Derived.Test.YtmpgfpmkmgebdaaGreatDoorWW4
namespace Go.Proofs.YtmpgfpmkmgebdaaGreatDoor.W
open Go.RowKit Go.Maps
variable {w w' w1 w2 : World} {S : Nat → Prop} {b g : Nat} {W W' : Wd}
section
variable {ev : Operand → Value} {o : Oper} {w : World} {x y : Operand}
theorem rn_load63 {g k : Nat} {v : Value} (ho : o.op = .load 63 x) (hx : ev x = .pointer (some ⟨g, k, none⟩)) (hc : w.cell? ⟨g, k, none⟩ = some v) : (execOp ev o).run Tryz.prog w = .ok (.value v) w := by
  simp [execOp, ho, hx, go_sem, hc]
theorem rn_f66_0 {g k : Nat} (ho : o.op = .fieldAddr 66 x 0) (hx : ev x = .pointer (some ⟨g, k, none⟩)) : (execOp ev o).run Tryz.prog w = .ok (.value (.pointer (some ⟨g, k, none⟩))) w := by
  simp [execOp, ho, hx, go_sem]
end
theorem countW_l (W : Wd) : (countW W).l = W.l := by
  unfold countW
  split
  · split <;> rfl
  · rfl
set_option maxRecDepth 20000 in
theorem alone_any (w : World) (F : Fn) (C : Array Value) : Calls Tryz.prog 97 #[.func F #[] C] w fun e w' => e = .returned (.func (.func 115) #[] #[.pointer (some ⟨w.heap.size, 0, none⟩)]) ∧ w' = w.alloc (.cells #[.func F #[] C] 166) := by
  go_enter Tryz.func97, Tryz.ntmps97
  go_wp2_with fail
  go_ret
  exact ⟨rfl, rfl⟩
set_option maxRecDepth 20000 in
theorem alone50 (w : World) (k : Value) (B1 B2 : Nat) (hB : w.cell? ⟨B1, 0, none⟩ = some (.func (.func 98) #[] #[.pointer (some ⟨B2, 0, none⟩)])) (hBl : B1 < w.heap.size) (Q : Int → World → Prop) (hf : ∀ w1, Below w.heap.size w w1 → Calls Tryz.prog 98 #[k, .pointer (some ⟨B2, 0, none⟩)] w1 fun e w' => ∃ z : Int, e = .returned (.int .i64 z) ∧ Q z w') : Calls Tryz.prog 115 #[k, .pointer (some ⟨B1, 0, none⟩)] w fun e w' => ∃ z : Int, e = .returned (.tuple #[.agg #[], .int .i64 z]) ∧ Q z w' := by
  have HF := hf _ (boxed w (.cells #[] 160))
  have c0 : (w.alloc (.cells #[] 160)).cell? ⟨B1, 0, none⟩ = some (.func (.func 98) #[] #[.pointer (some ⟨B2, 0, none⟩)]) := by rw [(boxed w (.cells #[] 160)).cell (p := ⟨B1, 0, none⟩) hBl]; exact hB
  clear hf hB hBl
  go_enter Tryz.func115, Tryz.ntmps115
  go_wp2_with fail
  refine HF.mono ?_
  clear HF
  rintro x w1 ⟨z, rfl, hq⟩
  have HQ := hid hq
  clear hq
  go_wp2_with fail
  exact ret82 rfl rfl rfl rfl ⟨z, rfl, HQ.out⟩
def ptF (g j blk : Nat) (n d : ByteArray) (i : Nat) (v : Value) (_ : World) : Prop := match i with
  | 4 => v = .pointer (some ⟨g, j * 2, none⟩) | 5 => v = .pointer (some ⟨g, j * 2, none⟩) | 6 => v = .pointer (some ⟨g, j * 2, none⟩)
  | 7 => v = .pointer (some ⟨blk, 0, none⟩) | 8 => v = .agg #[.string n, .string d]
  | _ => True
set_option maxHeartbeats 1000000 in
set_option maxRecDepth 20000 in
theorem put1_any (w : World) (j blk B2 : Nat) (n d : ByteArray) (c0 : w.cell? ⟨g, j * 2, none⟩ = some (.pointer (some ⟨blk, 0, none⟩))) (o0 : w.cell? ⟨B2, 0, none⟩ = some (.string n)) (o1 : w.cell? ⟨B2, 1, none⟩ = some (.string d)) (Q : Int → World → Prop) (hf : Calls Tryz.prog 99 #[.pointer (some ⟨blk, 0, none⟩), .agg #[.string n, .string d]] w.drew fun e w' => ∃ z : Int, e = .returned (.int .i64 z) ∧ Q z w') : Calls Tryz.prog 98 #[.pointer (some ⟨g, j * 2, none⟩), .pointer (some ⟨B2, 0, none⟩)] w fun e w' => ∃ z : Int, e = .returned (.int .i64 z) ∧ Q z w' := by
  go_enter Tryz.func98, Tryz.ntmps98
  go_wp2_with fail
  refine Tl.wp_mix_lit (by kernel_rfl) 5 [4, 5, 6, 7, 8] 10 rfl (by kernel_rfl) (AtW w.drew) (ptF g j blk n d) rfl
    ⟨fun a' W' hC hF => ?_, fun a' W' hC hF => ?_, fun a' W' hC hF => ?_, fun a' W' hC hF => ?_, fun a' W' hC hF => ?_, trivial⟩ ?_
  · exact Tl.sm_v 4 _ rfl (Tl.wanted_none rfl) hC rfl (rn_move rfl ((hF 0 (by decide +kernel)).2 (by decide)))
  · exact Tl.sm_v 5 _ rfl (Tl.wanted_none rfl) hC rfl (rn_nilCheck rfl ((hF 4 (by decide +kernel)).1 (by decide)))
  · exact Tl.sm_v 6 _ rfl (Tl.wanted_none rfl) hC rfl (rn_f66_0 rfl ((hF 5 (by decide +kernel)).1 (by decide)))
  · exact Tl.sm_v 7 _ rfl (Tl.wanted_none rfl) hC rfl (rn_load63 rfl ((hF 6 (by decide +kernel)).1 (by decide)) (by rw [show W' = _ from hC]; exact c0))
  · exact Tl.sm_v 8 _ rfl (Tl.wanted_none rfl) hC rfl (rn_load28 rfl ((hF 1 (by decide +kernel)).2 (by decide)) (by rw [show W' = _ from hC]; exact o0) (by rw [show W' = _ from hC]; exact o1))
  intro v wB hw hv
  obtain rfl : wB = _ := hw
  have v7 : v 7 = .pointer (some ⟨blk, 0, none⟩) := hv 7 (by decide)
  have v8 : v 8 = .agg #[.string n, .string d] := hv 8 (by decide)
  clear hv c0 o0 o1
  simp only [Tl.fill, List.drop_succ_cons, List.drop_zero]
  simp only [Act.put, List.setIfInBounds_toArray, List.set_cons_succ, List.set_cons_zero, v7, v8]
  clear v7 v8
  go_wp2_with fail
  refine hf.mono ?_
  clear hf
  rintro x w1 ⟨z, rfl, hq⟩
  have HQ := hid hq
  clear hq
  go_wp2_with fail
  go_ret
  exact ⟨z, rfl, HQ.out⟩
/-- what is asked of a store, counted -/
def askS (W : Wd) (i : Int) (f : St → Int × St) : Int × Wd := if 0 ≤ i ∧ i < (W.l.length : Int) then (if (countW W).dark then (56, countW W) else match (countW W).l[i.toNat]? with
  | some x => ((f x.st).1, { countW W with l := (countW W).l.set i.toNat { x with st := (f x.st).2 } })
  | none => (56, countW W)) else (1, W)
theorem askS_no {W : Wd} {i : Int} {f : St → Int × St} (h : ¬ (0 ≤ i ∧ i < (W.l.length : Int))) : askS W i f = (1, W) := by unfold askS; rw [if_neg h]
theorem askS_dark {W : Wd} {i : Int} {f : St → Int × St} (h : 0 ≤ i ∧ i < (W.l.length : Int)) (hd : (countW W).dark = true) : askS W i f = (56, countW W) := by unfold askS; rw [if_pos h, if_pos hd]
theorem askS_does {W : Wd} {i : Int} {f : St → Int × St} (h : 0 ≤ i ∧ i < (W.l.length : Int)) (hd : (countW W).dark = false) : ∃ x, (countW W).l[i.toNat]? = some x ∧ x ∈ W.l ∧ askS W i f = ((f x.st).1, { countW W with l := (countW W).l.set i.toNat { x with st := (f x.st).2 } }) := by
  obtain ⟨x, hx⟩ : ∃ x, (countW W).l[i.toNat]? = some x := ⟨_, List.getElem?_eq_getElem (by rw [countW_l]; omega)⟩
  refine ⟨x, hx, by rw [countW_l] at hx; exact List.mem_of_getElem? hx, ?_⟩
  unfold askS
  rw [if_pos h, if_neg (by rw [hd]; decide), hx]
set_option maxHeartbeats 2000000 in
set_option maxRecDepth 20000 in
theorem wput_any (h : IsWd w S b g W) (hc : W.calls ≤ 1000000) (hl : W.left < 9223372036854775808) {N : Nat} (hF : ∀ x ∈ W.l, Fit N x.st) (hN : N ≤ 1000000) (i : Int) (n d : ByteArray) : Calls Tryz.prog 69 #[ptr b, .int .i64 i, obv n d] w fun e w' => e = .returned (er (askS W i fun s => putS s n d).1) ∧ AfterW w w' S b g (askS W i fun s => putS s n d).2 := by
  have HB := hid (boxed w (.cells #[.string n, .string d] 131))
  have HX := hid (Has.new w w.heap.size #[.string n, .string d] 131 rfl)
  have HH := hid (h.below HB.out)
  have HNS : Hid (¬ S w.heap.size) := hid fun hS => by have := h.bound _ hS; omega
  obtain ⟨wa, hwa⟩ : ∃ wa, wa = w.alloc (.cells #[.string n, .string d] 131) := ⟨_, rfl⟩
  rw [← hwa] at HB HX HH
  have HAL := alone_any wa (.func 98) #[.pointer (some ⟨w.heap.size, 0, none⟩)]
  have HASK := hid (ask48_any (HH.out.below (boxed wa (.cells #[.func (.func 98) #[] #[.pointer (some ⟨w.heap.size, 0, none⟩)]] 166))) hc hl i wa.heap.size (fun e w' => ∃ z : Int, e = .returned (.tuple #[.agg #[], .int .i64 z]) ∧ z = (askS W i fun s => putS s n d).1 ∧ AfterW w w' S b g (askS W i fun s => putS s n d).2)
    (fun h0 w1 hb => ⟨1, rfl, by rw [askS_no h0], by rw [askS_no h0]; exact AfterW.front HB.out ((AfterW.refl (HH.out.below (boxed wa _))).front (boxed wa _) |>.next hb)⟩)
    (fun h0 hd w1 ha => ⟨56, rfl, by rw [askS_dark h0 hd], by rw [askS_dark h0 hd]; exact AfterW.front HB.out (AfterW.front (boxed wa _) ha)⟩)
    (fun h0 hd w1 ha => by
      obtain ⟨x, hx, hxm, e⟩ := askS_does (f := fun s => putS s n d) h0 hd
      rw [e]
      have hbx : Has w1 wa.heap.size #[.func (.func 98) #[] #[.pointer (some ⟨w.heap.size, 0, none⟩)]] 166 := ha.has (Has.new wa _ _ _ rfl) fun hS => by
        have := HH.out.bound _ hS; omega
      have hob : Has w1 w.heap.size #[.string n, .string d] 131 := ha.has (HX.out.alloc _) HNS.out
      refine (alone50 w1 _ wa.heap.size w.heap.size (hbx.cell 0) hbx.lt (fun z w' => z = (putS x.st n d).1 ∧ AfterW w w' S b g { countW W with l := (countW W).l.set i.toNat { x with st := (putS x.st n d).2 } }) (fun w2 hb2 => ?_)).mono fun e w' ⟨z, h1, h2, h3⟩ => ⟨z, h1, z, h1, h2, h3⟩
      have ha2 := (AfterW.front HB.out (AfterW.front (boxed wa _) ha)).next hb2
      obtain ⟨S2, i2, s2, o2⟩ := ha2
      obtain ⟨c0, _, _⟩ := i2.kept hx
      have hob2 := hob.below hb2 hob.lt
      refine put1_any w2 i.toNat x.blk w.heap.size n d c0 (hob2.cell 0) (hob2.cell 1) _ ?_
      obtain ⟨T, t1, _, t3⟩ := (i2.below (Below.refl _ _).drew).call hx
      refine (put_any t1 (hF x hxm) hN n d).mono fun e w3 ⟨h1, h2⟩ => ⟨_, h1, rfl, AfterW.trans s2 o2 ?_⟩
      exact AfterW.front (Below.refl _ _).drew (t3 _ _ h2)))
  unfold ptr at *
  unfold obv er
  clear h hF hc hl
  go_enter Tryz.func69, Tryz.ntmps69
  go_wp2_with fail
  rw [← hwa]
  refine HAL.mono ?_
  clear HAL hwa
  rintro x w1 ⟨rfl, rfl⟩
  go_wp2_with fail
  refine HASK.out.mono ?_
  clear HASK
  rintro x w2 ⟨z, rfl, hz, ha⟩
  have HZ := hid hz
  have HA := hid ha
  clear hz ha
  go_wp2_with fail
  go_ret
  exact ⟨by rw [HZ.out]; rfl, HA.out.next (boxed _ _)⟩
end Go.Proofs.YtmpgfpmkmgebdaaGreatDoor.W
/- The program's world: Del, Sync, Get, List. -/
namespace Go.Proofs.YtmpgfpmkmgebdaaGreatDoor.W
open Go.RowKit Go.Maps
variable {w w' w1 w2 : World} {S : Nat → Prop} {b g : Nat} {W W' : Wd}
theorem methSync (W : World) (g j blk : Nat) (hc : W.cell? ⟨g, j, none⟩ = some (.pointer (some ⟨blk, 0, none⟩))) : (method 370 81 (.pointer (some ⟨g, j, none⟩)) "Sync").run Tryz.prog W = .ok (100, .pointer (some ⟨blk, 0, none⟩)) W := by
  have hi : (Tryz.prog.info? 81).map (fun i => (i.methods.find? (·.name == "Sync")).map fun m => (m.path.toList, m.func)) = some (some ([⟨66, 0, true⟩], some (100, true))) := by kernel_rfl
  cases hI : Tryz.prog.info? 81 with
  | none => rw [hI] at hi; cases hi
  | some i =>
    rw [hI] at hi
    simp only [Option.map_some, Option.some.injEq] at hi
    cases hm : i.methods.find? (·.name == "Sync") with
    | none => rw [hm] at hi; cases hi
    | some m =>
      rw [hm] at hi
      simp only [Option.map_some, Option.some.injEq, Prod.mk.injEq] at hi
      obtain ⟨hp, hf⟩ := hi
      show (method (369 + 1) 81 _ _).run _ _ = _
      rw [method]
      simp [Sem.run_bind, typeInfo, hI, hm, hp, hf, follow, asAddr, fieldPlace, receiverAt, Place.get, hc, go_sem]
set_option maxRecDepth 20000 in
theorem aloneS (w : World) (g j blk B1 : Nat) (hB : w.cell? ⟨B1, 0, none⟩ = some (.func (.methodOf 81 "Sync") #[] #[])) (hBl : B1 < w.heap.size) (c0 : w.cell? ⟨g, j * 2, none⟩ = some (.pointer (some ⟨blk, 0, none⟩))) (hgl : g < w.heap.size) (Q : Int → World → Prop) (hf : ∀ w1, Below w.heap.size w w1 → Calls Tryz.prog 100 #[.pointer (some ⟨blk, 0, none⟩)] w1 fun e w' => ∃ z : Int, e = .returned (.int .i64 z) ∧ Q z w') : Calls Tryz.prog 115 #[.pointer (some ⟨g, j * 2, none⟩), .pointer (some ⟨B1, 0, none⟩)] w fun e w' => ∃ z : Int, e = .returned (.tuple #[.agg #[], .int .i64 z]) ∧ Q z w' := by
  have HF := hf _ (boxed w (.cells #[] 160))
  have c1 : (w.alloc (.cells #[] 160)).cell? ⟨B1, 0, none⟩ = some (.func (.methodOf 81 "Sync") #[] #[]) := by rw [(boxed w (.cells #[] 160)).cell (p := ⟨B1, 0, none⟩) hBl]; exact hB
  have hm := methSync (w.alloc (.cells #[] 160)) g (j * 2) blk (by rw [(boxed w (.cells #[] 160)).cell (p := ⟨g, j * 2, none⟩) hgl]; exact c0)
  clear hf hB hBl c0 hgl
  go_enter Tryz.func115, Tryz.ntmps115
  go_wp2_with fail
  refine HF.mono ?_
  clear HF
  rintro x w1 ⟨z, rfl, hq⟩
  have HQ := hid hq
  clear hq
  go_wp2_with fail
  exact ret82 rfl rfl rfl rfl ⟨z, rfl, HQ.out⟩
set_option maxHeartbeats 2000000 in
set_option maxRecDepth 20000 in
theorem wsync_any (h : IsWd w S b g W) (hc : W.calls ≤ 1000000) (hl : W.left < 9223372036854775808)  (i : Int) : Calls Tryz.prog 70 #[ptr b, .int .i64 i] w fun e w' => e = .returned (er (askS W i sync).1) ∧ AfterW w w' S b g (askS W i sync).2 := by
  have HB := hid (Below.refl w.heap.size w)
  have HH := hid h
  obtain ⟨wa, hwa⟩ : ∃ wa, wa = w := ⟨_, rfl⟩
  rw [← hwa] at HH
  rw [show Below w.heap.size w w = Below w.heap.size w wa from by rw [hwa]] at HB
  have HAL := alone_any wa (.methodOf 81 "Sync") #[]
  have HASK := hid (ask48_any (HH.out.below (boxed wa (.cells #[.func (.methodOf 81 "Sync") #[] #[]] 166))) hc hl i wa.heap.size (fun e w' => ∃ z : Int, e = .returned (.tuple #[.agg #[], .int .i64 z]) ∧ z = (askS W i sync).1 ∧ AfterW w w' S b g (askS W i sync).2)
    (fun h0 w1 hb => ⟨1, rfl, by rw [askS_no h0], by rw [askS_no h0]; exact AfterW.front HB.out ((AfterW.refl (HH.out.below (boxed wa _))).front (boxed wa _) |>.next hb)⟩)
    (fun h0 hd w1 ha => ⟨56, rfl, by rw [askS_dark h0 hd], by rw [askS_dark h0 hd]; exact AfterW.front HB.out (AfterW.front (boxed wa _) ha)⟩)
    (fun h0 hd w1 ha => by
      obtain ⟨x, hx, hxm, e⟩ := askS_does (f := sync) h0 hd
      rw [e]
      have hbx : Has w1 wa.heap.size #[.func (.methodOf 81 "Sync") #[] #[]] 166 := ha.has (Has.new wa _ _ _ rfl) fun hS => by
        have := HH.out.bound _ hS; omega
      have ha1 := AfterW.front HB.out (AfterW.front (boxed wa _) ha)
      obtain ⟨S1, i1, s1, o1⟩ := ha1
      obtain ⟨c0, _, _⟩ := i1.kept hx
      have hgl : g < w1.heap.size := by obtain ⟨_, _, _, _, _, _, _, h6, h7⟩ := i1; exact h7 g h6
      refine (aloneS w1 g i.toNat x.blk wa.heap.size (hbx.cell 0) hbx.lt c0 hgl (fun z w' => z = (sync x.st).1 ∧ AfterW w w' S b g { countW W with l := (countW W).l.set i.toNat { x with st := (sync x.st).2 } }) (fun w2 hb2 => ?_)).mono fun e w' ⟨z, h1, h2, h3⟩ => ⟨z, h1, z, h1, h2, h3⟩
      obtain ⟨T, t1, _, t3⟩ := (i1.below hb2).call hx
      exact (sync_any t1).mono fun e w3 ⟨h1, h2⟩ => ⟨_, h1, rfl, AfterW.trans s1 o1 (AfterW.front hb2 (t3 _ _ h2))⟩))
  unfold ptr at *
  unfold er
  clear h hc hl
  go_enter Tryz.func70, Tryz.ntmps70
  go_wp2_with fail
  rw [← hwa]
  refine HAL.mono ?_
  clear HAL hwa
  rintro x w1 ⟨rfl, rfl⟩
  go_wp2_with fail
  refine HASK.out.mono ?_
  clear HASK
  rintro x w2 ⟨z, rfl, hz, ha⟩
  have HZ := hid hz
  have HA := hid ha
  clear hz ha
  go_wp2_with fail
  go_ret
  exact ⟨by rw [HZ.out]; rfl, HA.out.next (boxed _ _)⟩
section
variable {ev : Operand → Value} {o : Oper} {w : World} {x y : Operand}
theorem rn_ext0 {u v : Value} (ho : o.op = .extract x 0) (hx : ev x = .tuple #[u, v]) : (execOp ev o).run Tryz.prog w = .ok (.value u) w := by
  simp [execOp, ho, hx, go_sem]
theorem rn_ext1 {u v : Value} (ho : o.op = .extract x 1) (hx : ev x = .tuple #[u, v]) : (execOp ev o).run Tryz.prog w = .ok (.value v) w := by
  simp [execOp, ho, hx, go_sem]
theorem enter56 (args : Array Value) : (callFunc 76 args).run Tryz.prog w = .ok (.enter 76 args) w := by kernel_rfl
end
def gtF (g j blk : Nat) (n d : ByteArray) (z : Int) (i : Nat) (v : Value) (_ : World) : Prop := match i with
  | 5 => v = .pointer (some ⟨g, j * 2, none⟩) | 6 => v = .pointer (some ⟨g, j * 2, none⟩) | 7 => v = .pointer (some ⟨g, j * 2, none⟩)
  | 8 => v = .pointer (some ⟨blk, 0, none⟩) | 9 => v = .string n
  | 10 => v = .tuple #[.string d, .int .i64 z] | 11 => v = .string d | 12 => v = .int .i64 z
  | _ => True
set_option maxHeartbeats 1000000 in
set_option maxRecDepth 20000 in
theorem get1_any (w : World) (j blk B2 : Nat) (n d : ByteArray) (z : Int) (c0 : w.cell? ⟨g, j * 2, none⟩ = some (.pointer (some ⟨blk, 0, none⟩))) (hg : g < w.heap.size) (o0 : w.cell? ⟨B2, 0, none⟩ = some (.string n)) (hB : B2 < w.heap.size) (hf : ∀ W, Below w.heap.size w W → Calls Tryz.prog 76 #[.pointer (some ⟨blk, 0, none⟩), .string n] W fun e w' => e = .returned (.tuple #[.string d, .int .i64 z]) ∧ Below W.heap.size W w') : Calls Tryz.prog 75 #[.pointer (some ⟨g, j * 2, none⟩), .pointer (some ⟨B2, 0, none⟩)] w fun e w' => e = .returned (.tuple #[.string d, .int .i64 z]) ∧ Below w.heap.size w w' := by
  go_enter Tryz.func75, Tryz.ntmps75
  go_wp2_with fail
  refine Tl.wp_mix_lit (by kernel_rfl) 8 [5, 6, 7, 8, 9, 10, 11, 12] 13 rfl (by kernel_rfl) (BelW w) (gtF g j blk n d z) ((Below.refl _ _).drew)
    ⟨fun a' W' hC hF => ?_, fun a' W' hC hF => ?_, fun a' W' hC hF => ?_, fun a' W' hC hF => ?_, fun a' W' hC hF => ?_, fun a' W' hC hF => ?_, fun a' W' hC hF => ?_, fun a' W' hC hF => ?_, trivial⟩ ?_
  · exact Tl.sm_v 5 _ rfl (Tl.wanted_none rfl) hC rfl (rn_move rfl ((hF 0 (by decide +kernel)).2 (by decide)))
  · exact Tl.sm_v 6 _ rfl (Tl.wanted_none rfl) hC rfl (rn_nilCheck rfl ((hF 5 (by decide +kernel)).1 (by decide)))
  · exact Tl.sm_v 7 _ rfl (Tl.wanted_none rfl) hC rfl (rn_f66_0 rfl ((hF 6 (by decide +kernel)).1 (by decide)))
  · exact Tl.sm_v 8 _ rfl (Tl.wanted_none rfl) hC rfl (rn_load63 rfl ((hF 7 (by decide +kernel)).1 (by decide)) (BelW.cell hC (p := ⟨g, j * 2, none⟩) hg c0))
  · exact Tl.sm_v 9 _ rfl (Tl.wanted_none rfl) hC rfl (rn_load9 rfl ((hF 1 (by decide +kernel)).2 (by decide)) (BelW.cell hC (p := ⟨B2, 0, none⟩) hB o0))
  · refine Tl.sm_call 76 #[.pointer (some ⟨blk, 0, none⟩), .string n] (Tl.wanted_none rfl) (rn_call2 rfl rfl ((hF 8 (by decide +kernel)).1 (by decide)) ((hF 9 (by decide +kernel)).1 (by decide)) (enter56 _)) ((hf W' hC).mono ?_)
    rintro e w'' ⟨rfl, b1⟩
    exact ⟨_, rfl, Below.trans hC (b1.mono hC.size), fun _ _ _ h => h, fun d hd => by cases hd; rfl⟩
  · exact Tl.sm_v 11 _ rfl (Tl.wanted_none rfl) hC rfl (rn_ext0 rfl ((hF 10 (by decide +kernel)).1 (by decide)))
  · exact Tl.sm_v 12 _ rfl (Tl.wanted_none rfl) hC rfl (rn_ext1 rfl ((hF 10 (by decide +kernel)).1 (by decide)))
  intro v wB hw hv
  have v11 : v 11 = .string d := hv 11 (by decide)
  have v12 : v 12 = .int .i64 z := hv 12 (by decide)
  have HB := hid hw
  clear hv c0 o0 hw hf hg hB
  simp only [Tl.fill, List.drop_succ_cons, List.drop_zero]
  simp only [Act.put, List.setIfInBounds_toArray, List.set_cons_succ, List.set_cons_zero, v11, v12]
  clear v11 v12
  go_wp2_with fail
  go_ret2
  exact ⟨rfl, HB.out⟩
def getW (W : Wd) (i : Int) (n : ByteArray) : ByteArray × Int := if 0 ≤ i ∧ i < (W.l.length : Int) then (if (countW W).dark then (⟨#[]⟩, 56) else match (countW W).l[i.toNat]? with
  | some x => get x.st n
  | none => (⟨#[]⟩, 56)) else (⟨#[]⟩, 1)
def askW (W : Wd) (i : Int) : Wd := if 0 ≤ i ∧ i < (W.l.length : Int) then countW W else W
set_option maxHeartbeats 2000000 in
set_option maxRecDepth 20000 in
theorem wget_any (h : IsWd w S b g W) (hc : W.calls ≤ 1000000) (hl : W.left < 9223372036854775808) (i : Int) (n : ByteArray) (hn : n.size ≤ 1000000) : Calls Tryz.prog 49 #[ptr b, .int .i64 i, .string n] w fun e w' => e = .returned (.tuple #[.string (getW W i n).1, er (getW W i n).2]) ∧ AfterW w w' S b g (askW W i) := by
  have HB := hid (boxed w (.cells #[.string n] 9))
  have HX := hid (Has.new w w.heap.size #[.string n] 9 rfl)
  have HH := hid (h.below HB.out)
  have HNS : Hid (¬ S w.heap.size) := hid fun hS => by have := h.bound _ hS; omega
  obtain ⟨wa, hwa⟩ : ∃ wa, wa = w.alloc (.cells #[.string n] 9) := ⟨_, rfl⟩
  rw [← hwa] at HB HX HH
  have HASK := hid (ask54_any HH.out hc hl i w.heap.size (fun e w' => ∃ (d : ByteArray) (z : Int), e = .returned (.tuple #[.string d, .int .i64 z]) ∧ (d, z) = getW W i n ∧ AfterW w w' S b g (askW W i))
    (fun h0 => ⟨_, 1, rfl, by unfold getW; rw [if_neg h0], by unfold askW; rw [if_neg h0]; exact AfterW.front HB.out (AfterW.refl HH.out)⟩)
    (fun h0 hd w1 ha => ⟨_, 56, rfl, by unfold getW; rw [if_pos h0, if_pos hd], by unfold askW; rw [if_pos h0]; exact AfterW.front HB.out ha⟩)
    (fun h0 hd w1 ha => by
      obtain ⟨x, hx, hxm, _⟩ := askS_does (f := fun s => (0, s)) h0 hd
      have e1 : getW W i n = get x.st n := by unfold getW; rw [if_pos h0, if_neg (by rw [hd]; decide), hx]
      have e2 : askW W i = countW W := by unfold askW; rw [if_pos h0]
      rw [e1, e2]
      have hob : Has w1 w.heap.size #[.string n] 9 := ha.has HX.out HNS.out
      have ha1 := AfterW.front HB.out ha
      obtain ⟨S1, i1, s1, o1⟩ := ha1
      obtain ⟨c0, _, _⟩ := i1.kept hx
      have hgl : g < w1.heap.size := by obtain ⟨_, _, _, _, _, _, _, h6, h7⟩ := i1; exact h7 g h6
      refine (get1_any w1 i.toNat x.blk w.heap.size n (get x.st n).1 (get x.st n).2 c0 hgl (hob.cell 0) hob.lt (fun W2 hb2 => ?_)).mono fun e w' ⟨h1, h2⟩ => ⟨_, _, h1, _, _, h1, rfl, AfterW.trans s1 o1 ((AfterW.refl i1).next h2)⟩
      obtain ⟨T, t1, _, _⟩ := (i1.below hb2).call hx
      exact get_any t1 n (by unfold maxLen; omega)))
  unfold ptr at *
  unfold er
  clear h hc hl
  go_enter Tryz.func49, Tryz.ntmps49
  go_wp2_with fail
  rw [← hwa]
  refine HASK.out.mono ?_
  clear HASK hwa
  rintro x w2 ⟨d, z, rfl, hz, ha⟩
  have HZ := hid hz
  have HA := hid ha
  clear hz ha
  go_wp2_with fail
  go_ret2
  refine ⟨?_, HA.out⟩
  rw [← HZ.out]; rfl
end Go.Proofs.YtmpgfpmkmgebdaaGreatDoor.W
