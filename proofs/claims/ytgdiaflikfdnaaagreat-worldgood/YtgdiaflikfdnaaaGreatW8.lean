/- The program's world: Del, Sync, Get, List. -/
import Derived.Test.YtgdiaflikfdnaaaGreatW5
namespace Go.Proofs.YtgdiaflikfdnaaaGreat
open Go.RowKit Go.Maps
variable {w w' w1 w2 : World} {S : Nat → Prop} {b g : Nat} {W W' : Wd}
theorem methSync (W : World) (g j blk : Nat) (hc : W.cell? ⟨g, j, none⟩ = some (.pointer (some ⟨blk, 0, none⟩))) : (method 284 87 (.pointer (some ⟨g, j, none⟩)) "Sync").run Tryz.prog W = .ok (52, .pointer (some ⟨blk, 0, none⟩)) W := by
  have hi : (Tryz.prog.info? 87).map (fun i => (i.methods.find? (·.name == "Sync")).map fun m => (m.path.toList, m.func)) = some (some ([⟨66, 0, true⟩], some (52, true))) := by kernel_rfl
  cases hI : Tryz.prog.info? 87 with
  | none => rw [hI] at hi; cases hi
  | some i =>
    rw [hI] at hi
    simp only [Option.map_some, Option.some.injEq] at hi
    cases hm : i.methods.find? (·.name == "Sync") with
    | none => rw [hm] at hi; cases hi
    | some m =>
      rw [hm] at hi
      simp only [Option.map_some, Option.some.injEq, Prod.mk.injEq] at hi
      obtain ⟨hp, hf⟩ := hi
      show (method (283 + 1) 87 _ _).run _ _ = _
      rw [method]
      simp [Sem.run_bind, typeInfo, hI, hm, hp, hf, follow, asAddr, fieldPlace, receiverAt, Place.get, hc, go_sem]
theorem methList (W : World) (g j blk : Nat) (hc : W.cell? ⟨g, j, none⟩ = some (.pointer (some ⟨blk, 0, none⟩))) : (method 284 87 (.pointer (some ⟨g, j, none⟩)) "List").run Tryz.prog W = .ok (69, .pointer (some ⟨blk, 0, none⟩)) W := by
  have hi : (Tryz.prog.info? 87).map (fun i => (i.methods.find? (·.name == "List")).map fun m => (m.path.toList, m.func)) = some (some ([⟨66, 0, true⟩], some (69, true))) := by kernel_rfl
  cases hI : Tryz.prog.info? 87 with
  | none => rw [hI] at hi; cases hi
  | some i =>
    rw [hI] at hi
    simp only [Option.map_some, Option.some.injEq] at hi
    cases hm : i.methods.find? (·.name == "List") with
    | none => rw [hm] at hi; cases hi
    | some m =>
      rw [hm] at hi
      simp only [Option.map_some, Option.some.injEq, Prod.mk.injEq] at hi
      obtain ⟨hp, hf⟩ := hi
      show (method (283 + 1) 87 _ _).run _ _ = _
      rw [method]
      simp [Sem.run_bind, typeInfo, hI, hm, hp, hf, follow, asAddr, fieldPlace, receiverAt, Place.get, hc, go_sem]
set_option maxRecDepth 20000 in
theorem aloneS (w : World) (g j blk B1 : Nat) (hB : w.cell? ⟨B1, 0, none⟩ = some (.func (.methodOf 87 "Sync") #[] #[])) (hBl : B1 < w.heap.size) (c0 : w.cell? ⟨g, j * 2, none⟩ = some (.pointer (some ⟨blk, 0, none⟩))) (hgl : g < w.heap.size) (Q : Int → World → Prop) (hf : ∀ w1, Below w.heap.size w w1 → Calls Tryz.prog 52 #[.pointer (some ⟨blk, 0, none⟩)] w1 fun e w' => ∃ z : Int, e = .returned (.int .i64 z) ∧ Q z w') : Calls Tryz.prog 80 #[.pointer (some ⟨g, j * 2, none⟩), .pointer (some ⟨B1, 0, none⟩)] w fun e w' => ∃ z : Int, e = .returned (.tuple #[.agg #[], .int .i64 z]) ∧ Q z w' := by
  have HF := hf _ (boxed w (.cells #[] 82))
  have c1 : (w.alloc (.cells #[] 82)).cell? ⟨B1, 0, none⟩ = some (.func (.methodOf 87 "Sync") #[] #[]) := by rw [(boxed w (.cells #[] 82)).cell (p := ⟨B1, 0, none⟩) hBl]; exact hB
  have hm := methSync (w.alloc (.cells #[] 82)) g (j * 2) blk (by rw [(boxed w (.cells #[] 82)).cell (p := ⟨g, j * 2, none⟩) hgl]; exact c0)
  clear hf hB hBl c0 hgl
  go_enter Tryz.func80, Tryz.ntmps80
  go_wp2_with fail
  refine HF.mono ?_
  clear HF
  rintro x w1 ⟨z, rfl, hq⟩
  have HQ := hid hq
  clear hq
  go_wp2_with fail
  exact ret82 rfl rfl rfl rfl ⟨z, rfl, HQ.out⟩
set_option maxHeartbeats 2000000 in
set_option maxRecDepth 20000 in
theorem wdel_any (h : IsWd w S b g W) (hc : W.calls ≤ 1000000) (hl : W.left < 9223372036854775808) {N : Nat} (hF : ∀ x ∈ W.l, Fit N x.st) (hN : N ≤ 1000000) (i : Int) (n : ByteArray) (hn : n.size ≤ 1000000) : Calls Tryz.prog 33 #[ptr b, .int .i64 i, .string n] w fun e w' => e = .returned (er (askS W i (fun s => delS s n)).1) ∧ AfterW w w' S b g (askS W i (fun s => delS s n)).2 := by
  have HB := hid (boxed w (.cells #[.string n] 9))
  have HX := hid (Has.new w w.heap.size #[.string n] 9 rfl)
  have HH := hid (h.below HB.out)
  have HNS : Hid (¬ S w.heap.size) := hid fun hS => by have := h.bound _ hS; omega
  obtain ⟨wa, hwa⟩ : ∃ wa, wa = w.alloc (.cells #[.string n] 9) := ⟨_, rfl⟩
  rw [← hwa] at HB HX HH
  have HAL := alone_any wa (.func 65) #[.pointer (some ⟨w.heap.size, 0, none⟩)]
  have HASK := hid (ask48_any (HH.out.below (boxed wa (.cells #[.func (.func 65) #[] #[.pointer (some ⟨w.heap.size, 0, none⟩)]] 89))) hc hl i wa.heap.size (fun e w' => ∃ z : Int, e = .returned (.tuple #[.agg #[], .int .i64 z]) ∧ z = (askS W i (fun s => delS s n)).1 ∧ AfterW w w' S b g (askS W i (fun s => delS s n)).2)
    (fun h0 w1 hb => ⟨1, rfl, by rw [askS_no h0], by rw [askS_no h0]; exact AfterW.front HB.out ((AfterW.refl (HH.out.below (boxed wa _))).front (boxed wa _) |>.next hb)⟩)
    (fun h0 hd w1 ha => ⟨56, rfl, by rw [askS_dark h0 hd], by rw [askS_dark h0 hd]; exact AfterW.front HB.out (AfterW.front (boxed wa _) ha)⟩)
    (fun h0 hd w1 ha => by
      obtain ⟨x, hx, hxm, e⟩ := askS_does (f := (fun s => delS s n)) h0 hd
      rw [e]
      have hbx : Has w1 wa.heap.size #[.func (.func 65) #[] #[.pointer (some ⟨w.heap.size, 0, none⟩)]] 89 := ha.has (Has.new wa _ _ _ rfl) fun hS => by
        have := HH.out.bound _ hS; omega
      have hob : Has w1 w.heap.size #[.string n] 9 := ha.has (HX.out.alloc _) HNS.out
      refine (alone65 w1 _ wa.heap.size w.heap.size (hbx.cell 0) hbx.lt (fun z w' => z = (delS x.st n).1 ∧ AfterW w w' S b g { countW W with l := (countW W).l.set i.toNat { x with st := (delS x.st n).2 } }) (fun w2 hb2 => ?_)).mono fun e w' ⟨z, h1, h2, h3⟩ => ⟨z, h1, z, h1, h2, h3⟩
      have ha2 := (AfterW.front HB.out (AfterW.front (boxed wa _) ha)).next hb2
      obtain ⟨S2, i2, s2, o2⟩ := ha2
      obtain ⟨c0, _, _⟩ := i2.kept hx
      have hob2 := hob.below hb2 hob.lt
      refine del1_any w2 i.toNat x.blk w.heap.size n c0 (hob2.cell 0) _ ?_
      obtain ⟨T, t1, _, t3⟩ := (i2.below (Below.refl _ _).drew).call hx
      refine (del_any t1 (hF x hxm) hN n hn).mono fun e w3 ⟨h1, h2⟩ => ⟨_, h1, rfl, AfterW.trans s2 o2 ?_⟩
      exact AfterW.front (Below.refl _ _).drew (t3 _ _ h2)))
  unfold ptr at *
  unfold er
  clear h hc hl hF
  go_enter Tryz.func33, Tryz.ntmps33
  go_wp2_with fail
  rw [← hwa]
  refine HAL.mono ?_
  clear HAL hwa
  rintro x w1 ⟨rfl, rfl⟩
  go_wp2_with fail
  refine HASK.out.mono ?_
  clear HASK
  rintro x w2 ⟨z, rfl, hz, ha⟩
  have HZ := hid hz
  have HA := hid ha
  clear hz ha
  go_wp2_with fail
  go_ret
  exact ⟨by rw [HZ.out]; rfl, HA.out.next (boxed _ _)⟩
set_option maxHeartbeats 2000000 in
set_option maxRecDepth 20000 in
theorem wsync_any (h : IsWd w S b g W) (hc : W.calls ≤ 1000000) (hl : W.left < 9223372036854775808)  (i : Int) : Calls Tryz.prog 15 #[ptr b, .int .i64 i] w fun e w' => e = .returned (er (askS W i sync).1) ∧ AfterW w w' S b g (askS W i sync).2 := by
  have HB := hid (Below.refl w.heap.size w)
  have HH := hid h
  obtain ⟨wa, hwa⟩ : ∃ wa, wa = w := ⟨_, rfl⟩
  rw [← hwa] at HH
  rw [show Below w.heap.size w w = Below w.heap.size w wa from by rw [hwa]] at HB
  have HAL := alone_any wa (.methodOf 87 "Sync") #[]
  have HASK := hid (ask48_any (HH.out.below (boxed wa (.cells #[.func (.methodOf 87 "Sync") #[] #[]] 89))) hc hl i wa.heap.size (fun e w' => ∃ z : Int, e = .returned (.tuple #[.agg #[], .int .i64 z]) ∧ z = (askS W i sync).1 ∧ AfterW w w' S b g (askS W i sync).2)
    (fun h0 w1 hb => ⟨1, rfl, by rw [askS_no h0], by rw [askS_no h0]; exact AfterW.front HB.out ((AfterW.refl (HH.out.below (boxed wa _))).front (boxed wa _) |>.next hb)⟩)
    (fun h0 hd w1 ha => ⟨56, rfl, by rw [askS_dark h0 hd], by rw [askS_dark h0 hd]; exact AfterW.front HB.out (AfterW.front (boxed wa _) ha)⟩)
    (fun h0 hd w1 ha => by
      obtain ⟨x, hx, hxm, e⟩ := askS_does (f := sync) h0 hd
      rw [e]
      have hbx : Has w1 wa.heap.size #[.func (.methodOf 87 "Sync") #[] #[]] 89 := ha.has (Has.new wa _ _ _ rfl) fun hS => by
        have := HH.out.bound _ hS; omega
      have ha1 := AfterW.front HB.out (AfterW.front (boxed wa _) ha)
      obtain ⟨S1, i1, s1, o1⟩ := ha1
      obtain ⟨c0, _, _⟩ := i1.kept hx
      have hgl : g < w1.heap.size := by obtain ⟨_, _, _, _, _, _, _, h6, h7⟩ := i1; exact h7 g h6
      refine (aloneS w1 g i.toNat x.blk wa.heap.size (hbx.cell 0) hbx.lt c0 hgl (fun z w' => z = (sync x.st).1 ∧ AfterW w w' S b g { countW W with l := (countW W).l.set i.toNat { x with st := (sync x.st).2 } }) (fun w2 hb2 => ?_)).mono fun e w' ⟨z, h1, h2, h3⟩ => ⟨z, h1, z, h1, h2, h3⟩
      obtain ⟨T, t1, _, t3⟩ := (i1.below hb2).call hx
      exact (sync_any t1).mono fun e w3 ⟨h1, h2⟩ => ⟨_, h1, rfl, AfterW.trans s1 o1 (AfterW.front hb2 (t3 _ _ h2))⟩))
  unfold ptr at *
  unfold er
  clear h hc hl
  go_enter Tryz.func15, Tryz.ntmps15
  go_wp2_with fail
  rw [← hwa]
  refine HAL.mono ?_
  clear HAL hwa
  rintro x w1 ⟨rfl, rfl⟩
  go_wp2_with fail
  refine HASK.out.mono ?_
  clear HASK
  rintro x w2 ⟨z, rfl, hz, ha⟩
  have HZ := hid hz
  have HA := hid ha
  clear hz ha
  go_wp2_with fail
  go_ret
  exact ⟨by rw [HZ.out]; rfl, HA.out.next (boxed _ _)⟩
section
variable {ev : Operand → Value} {o : Oper} {w : World} {x y : Operand}
theorem rn_ext0 {u v : Value} (ho : o.op = .extract x 0) (hx : ev x = .tuple #[u, v]) : (execOp ev o).run Tryz.prog w = .ok (.value u) w := by
  simp [execOp, ho, hx, go_sem]
theorem rn_ext1 {u v : Value} (ho : o.op = .extract x 1) (hx : ev x = .tuple #[u, v]) : (execOp ev o).run Tryz.prog w = .ok (.value v) w := by
  simp [execOp, ho, hx, go_sem]
theorem enter56 (args : Array Value) : (callFunc 56 args).run Tryz.prog w = .ok (.enter 56 args) w := by kernel_rfl
end
def gtF (g j blk : Nat) (n d : ByteArray) (z : Int) (i : Nat) (v : Value) (_ : World) : Prop := match i with
  | 5 => v = .pointer (some ⟨g, j * 2, none⟩) | 6 => v = .pointer (some ⟨g, j * 2, none⟩) | 7 => v = .pointer (some ⟨g, j * 2, none⟩)
  | 8 => v = .pointer (some ⟨blk, 0, none⟩) | 9 => v = .string n
  | 10 => v = .tuple #[.string d, .int .i64 z] | 11 => v = .string d | 12 => v = .int .i64 z
  | _ => True
set_option maxHeartbeats 1000000 in
set_option maxRecDepth 20000 in
theorem get1_any (w : World) (j blk B2 : Nat) (n d : ByteArray) (z : Int) (c0 : w.cell? ⟨g, j * 2, none⟩ = some (.pointer (some ⟨blk, 0, none⟩))) (hg : g < w.heap.size) (o0 : w.cell? ⟨B2, 0, none⟩ = some (.string n)) (hB : B2 < w.heap.size) (hf : ∀ W, Below w.heap.size w W → Calls Tryz.prog 56 #[.pointer (some ⟨blk, 0, none⟩), .string n] W fun e w' => e = .returned (.tuple #[.string d, .int .i64 z]) ∧ Below W.heap.size W w') : Calls Tryz.prog 55 #[.pointer (some ⟨g, j * 2, none⟩), .pointer (some ⟨B2, 0, none⟩)] w fun e w' => e = .returned (.tuple #[.string d, .int .i64 z]) ∧ Below w.heap.size w w' := by
  go_enter Tryz.func55, Tryz.ntmps55
  go_wp2_with fail
  refine Tl.wp_mix_lit (by kernel_rfl) 8 [5, 6, 7, 8, 9, 10, 11, 12] 13 rfl (by kernel_rfl) (BelW w) (gtF g j blk n d z) ((Below.refl _ _).drew)
    ⟨fun a' W' hC hF => ?_, fun a' W' hC hF => ?_, fun a' W' hC hF => ?_, fun a' W' hC hF => ?_, fun a' W' hC hF => ?_, fun a' W' hC hF => ?_, fun a' W' hC hF => ?_, fun a' W' hC hF => ?_, trivial⟩ ?_
  · exact Tl.sm_v 5 _ rfl (Tl.wanted_none rfl) hC rfl (rn_move rfl ((hF 0 (by decide +kernel)).2 (by decide)))
  · exact Tl.sm_v 6 _ rfl (Tl.wanted_none rfl) hC rfl (rn_nilCheck rfl ((hF 5 (by decide +kernel)).1 (by decide)))
  · exact Tl.sm_v 7 _ rfl (Tl.wanted_none rfl) hC rfl (rn_f66_0 rfl ((hF 6 (by decide +kernel)).1 (by decide)))
  · exact Tl.sm_v 8 _ rfl (Tl.wanted_none rfl) hC rfl (rn_load63 rfl ((hF 7 (by decide +kernel)).1 (by decide)) (BelW.cell hC (p := ⟨g, j * 2, none⟩) hg c0))
  · exact Tl.sm_v 9 _ rfl (Tl.wanted_none rfl) hC rfl (rn_load9 rfl ((hF 1 (by decide +kernel)).2 (by decide)) (BelW.cell hC (p := ⟨B2, 0, none⟩) hB o0))
  · refine Tl.sm_call 56 #[.pointer (some ⟨blk, 0, none⟩), .string n] (Tl.wanted_none rfl) (rn_call2 rfl rfl ((hF 8 (by decide +kernel)).1 (by decide)) ((hF 9 (by decide +kernel)).1 (by decide)) (enter56 _)) ((hf W' hC).mono ?_)
    rintro e w'' ⟨rfl, b1⟩
    exact ⟨_, rfl, Below.trans hC (b1.mono hC.size), fun _ _ _ h => h, fun d hd => by cases hd; rfl⟩
  · exact Tl.sm_v 11 _ rfl (Tl.wanted_none rfl) hC rfl (rn_ext0 rfl ((hF 10 (by decide +kernel)).1 (by decide)))
  · exact Tl.sm_v 12 _ rfl (Tl.wanted_none rfl) hC rfl (rn_ext1 rfl ((hF 10 (by decide +kernel)).1 (by decide)))
  intro v wB hw hv
  have v11 : v 11 = .string d := hv 11 (by decide)
  have v12 : v 12 = .int .i64 z := hv 12 (by decide)
  have HB := hid hw
  clear hv c0 o0 hw hf hg hB
  simp only [Tl.fill, List.drop_succ_cons, List.drop_zero]
  simp only [Act.put, List.setIfInBounds_toArray, List.set_cons_succ, List.set_cons_zero, v11, v12]
  clear v11 v12
  go_wp2_with fail
  go_ret2
  exact ⟨rfl, HB.out⟩
def getW (W : Wd) (i : Int) (n : ByteArray) : ByteArray × Int := if 0 ≤ i ∧ i < (W.l.length : Int) then (if (countW W).dark then (⟨#[]⟩, 56) else match (countW W).l[i.toNat]? with
  | some x => get x.st n
  | none => (⟨#[]⟩, 56)) else (⟨#[]⟩, 1)
def askW (W : Wd) (i : Int) : Wd := if 0 ≤ i ∧ i < (W.l.length : Int) then countW W else W
set_option maxHeartbeats 2000000 in
set_option maxRecDepth 20000 in
theorem wget_any (h : IsWd w S b g W) (hc : W.calls ≤ 1000000) (hl : W.left < 9223372036854775808) (i : Int) (n : ByteArray) (hn : n.size ≤ 1000000) : Calls Tryz.prog 17 #[ptr b, .int .i64 i, .string n] w fun e w' => e = .returned (.tuple #[.string (getW W i n).1, er (getW W i n).2]) ∧ AfterW w w' S b g (askW W i) := by
  have HB := hid (boxed w (.cells #[.string n] 9))
  have HX := hid (Has.new w w.heap.size #[.string n] 9 rfl)
  have HH := hid (h.below HB.out)
  have HNS : Hid (¬ S w.heap.size) := hid fun hS => by have := h.bound _ hS; omega
  obtain ⟨wa, hwa⟩ : ∃ wa, wa = w.alloc (.cells #[.string n] 9) := ⟨_, rfl⟩
  rw [← hwa] at HB HX HH
  have HASK := hid (ask54_any HH.out hc hl i w.heap.size (fun e w' => ∃ (d : ByteArray) (z : Int), e = .returned (.tuple #[.string d, .int .i64 z]) ∧ (d, z) = getW W i n ∧ AfterW w w' S b g (askW W i))
    (fun h0 => ⟨_, 1, rfl, by unfold getW; rw [if_neg h0], by unfold askW; rw [if_neg h0]; exact AfterW.front HB.out (AfterW.refl HH.out)⟩)
    (fun h0 hd w1 ha => ⟨_, 56, rfl, by unfold getW; rw [if_pos h0, if_pos hd], by unfold askW; rw [if_pos h0]; exact AfterW.front HB.out ha⟩)
    (fun h0 hd w1 ha => by
      obtain ⟨x, hx, hxm, _⟩ := askS_does (f := fun s => (0, s)) h0 hd
      have e1 : getW W i n = get x.st n := by unfold getW; rw [if_pos h0, if_neg (by rw [hd]; decide), hx]
      have e2 : askW W i = countW W := by unfold askW; rw [if_pos h0]
      rw [e1, e2]
      have hob : Has w1 w.heap.size #[.string n] 9 := ha.has HX.out HNS.out
      have ha1 := AfterW.front HB.out ha
      obtain ⟨S1, i1, s1, o1⟩ := ha1
      obtain ⟨c0, _, _⟩ := i1.kept hx
      have hgl : g < w1.heap.size := by obtain ⟨_, _, _, _, _, _, _, h6, h7⟩ := i1; exact h7 g h6
      refine (get1_any w1 i.toNat x.blk w.heap.size n (get x.st n).1 (get x.st n).2 c0 hgl (hob.cell 0) hob.lt (fun W2 hb2 => ?_)).mono fun e w' ⟨h1, h2⟩ => ⟨_, _, h1, _, _, h1, rfl, AfterW.trans s1 o1 ((AfterW.refl i1).next h2)⟩
      obtain ⟨T, t1, _, _⟩ := (i1.below hb2).call hx
      exact get_any t1 n (by unfold maxLen; omega)))
  unfold ptr at *
  unfold er
  clear h hc hl
  go_enter Tryz.func17, Tryz.ntmps17
  go_wp2_with fail
  rw [← hwa]
  refine HASK.out.mono ?_
  clear HASK hwa
  rintro x w2 ⟨d, z, rfl, hz, ha⟩
  have HZ := hid hz
  have HA := hid ha
  clear hz ha
  go_wp2_with fail
  go_ret2
  refine ⟨?_, HA.out⟩
  rw [← HZ.out]; rfl
end Go.Proofs.YtgdiaflikfdnaaaGreat
/- The program's world: List, Suspects. -/
namespace Go.Proofs.YtgdiaflikfdnaaaGreat
open Go.RowKit Go.Maps
variable {w w' w1 w2 : World} {S : Nat → Prop} {b g : Nat} {W W' : Wd}
set_option maxHeartbeats 2000000 in
set_option maxRecDepth 20000 in
theorem ask68_any (h : IsWd w S b g W) (hc : W.calls ≤ 1000000) (hl : W.left < 9223372036854775808) (i : Int) (Q : Ending → World → Prop)
    (h1 : ¬ (0 ≤ i ∧ i < (W.l.length : Int)) → Q (.returned (.tuple #[.slice none 0 0, .int .i64 1])) w)
    (h2 : 0 ≤ i ∧ i < (W.l.length : Int) → (countW W).dark = true → ∀ w1, AfterW w w1 S b g (countW W) → Q (.returned (.tuple #[.slice none 0 0, .int .i64 56])) w1)
    (hf : 0 ≤ i ∧ i < (W.l.length : Int) → (countW W).dark = false → ∀ w1, AfterW w w1 S b g (countW W) → ∀ x, (countW W).l[i.toNat]? = some x → Calls Tryz.prog 69 #[.pointer (some ⟨x.blk, 0, none⟩)] w1 fun e w' => ∃ (v : Value) (z : Int), e = .returned (.tuple #[v, .int .i64 z]) ∧ Q e w') :
    Calls Tryz.prog 68 #[ptr b, .int .i64 i, .func (.methodOf 87 "List") #[] #[]] w Q := by
  have HA := at_any h i
  have HC := count_any h hc hl
  unfold placeV at HA
  by_cases h0 : 0 ≤ i ∧ i < (W.l.length : Int)
  · rw [if_pos h0] at HA
    have HF := hid (hf h0)
    have H2 := hid (h2 h0)
    have HX := hid (askS_does (W := W) (i := i) (f := fun s => (0, s)) h0)
    unfold ptr at *
    clear h hf h1 h2 h0 hc hl
    go_enter Tryz.func68, Tryz.ntmps68
    go_wp2_with fail
    refine HA.mono ?_
    clear HA
    rintro x w1 ⟨rfl, rfl⟩
    go_wp2_with fail
    refine HC.mono ?_
    clear HC
    rintro x w2 ⟨rfl, ha⟩
    have HA2 := hid ha
    obtain ⟨S2, hi2, _, _⟩ := ha
    obtain ⟨cap, ⟨c0, c1, c2, c3, c4⟩, _, _⟩ := hi2.cells
    cases hd : (countW W).dark with
    | true =>
      rw [hd] at c2
      have HQ := hid (H2.out hd w2 HA2.out)
      clear hd H2 HF hi2 c0 c1 c3 c4
      go_wp2_with fail
      exact HQ.out
    | false =>
      rw [hd] at c2
      obtain ⟨x, hx, _, _⟩ := HX.out hd
      have HFF := HF.out hd w2 HA2.out x hx
      have hm := methList w2 g (i.toNat * 2) x.blk (hi2.kept hx).1
      clear hd HF H2 hi2 c0 c1 c3 c4 hx HX
      go_wp2_with fail
      refine HFF.mono ?_
      clear HFF
      rintro x w3 ⟨d, z, rfl, hq⟩
      have HQ := hid hq
      clear hq
      go_wp2_with fail
      exact HQ.out
  · rw [if_neg h0] at HA
    have H1 := hid (h1 h0)
    clear h hf HC h0 h1 h2
    unfold ptr at *
    go_enter Tryz.func68, Tryz.ntmps68
    go_wp2_with fail
    refine HA.mono ?_
    clear HA
    rintro x w1 ⟨rfl, rfl⟩
    go_wp2_with fail
    exact H1.out
def listW (W : Wd) (i : Int) : List Ob × Int := if 0 ≤ i ∧ i < (W.l.length : Int) then (if (countW W).dark then ([], 56) else match (countW W).l[i.toNat]? with
  | some x => if x.st.down then ([], 51) else (x.st.seen, 0)
  | none => ([], 56)) else ([], 1)
set_option maxHeartbeats 2000000 in
set_option maxRecDepth 20000 in
theorem wlist_any (h : IsWd w S b g W) (hc : W.calls ≤ 1000000) (hl : W.left < 9223372036854775808) (hs : ∀ x ∈ W.l, x.st.seen.length ≤ 1000000) (i : Int) : Calls Tryz.prog 35 #[ptr b, .int .i64 i] w fun e w' => ∃ v, e = .returned (.tuple #[v, er (listW W i).2]) ∧ w'.ownsRow w.heap.size 9 1 v (listW W i).1.length (nameCells (listW W i).1) ∧ AfterW w w' S b g (askW W i) := by
  have HASK := hid (ask68_any h hc hl i (fun e w' => ∃ (v : Value) (z : Int), e = .returned (.tuple #[v, .int .i64 z]) ∧ z = (listW W i).2 ∧ w'.ownsRow w.heap.size 9 1 v (listW W i).1.length (nameCells (listW W i).1) ∧ AfterW w w' S b g (askW W i))
    (fun h0 => ⟨_, 1, rfl, by unfold listW; rw [if_neg h0], by unfold listW; rw [if_neg h0]; exact World.ownsRow_nil _ _ _ _, by unfold askW; rw [if_neg h0]; exact AfterW.refl h⟩)
    (fun h0 hd w1 ha => ⟨_, 56, rfl, by unfold listW; rw [if_pos h0, if_pos hd], by unfold listW; rw [if_pos h0, if_pos hd]; exact World.ownsRow_nil _ _ _ _, by unfold askW; rw [if_pos h0]; exact ha⟩)
    (fun h0 hd w1 ha x hx => by
      have e1 : listW W i = if x.st.down then ([], 51) else (x.st.seen, 0) := by unfold listW; rw [if_pos h0, if_neg (by rw [hd]; decide), hx]
      have e2 : askW W i = countW W := by unfold askW; rw [if_pos h0]
      have hxm : x ∈ W.l := by rw [countW_l] at hx; exact List.mem_of_getElem? hx
      rw [e1, e2]
      obtain ⟨S1, i1, s1, o1⟩ := ha
      obtain ⟨T, t1, _, _⟩ := i1.call hx
      refine (list_any t1 (hs x hxm)).mono fun e w' ⟨v, h1, h2, h3⟩ => ?_
      refine ⟨v, _, h1, v, _, h1, ?_, ?_, AfterW.trans s1 o1 ((AfterW.refl i1).next h3)⟩
      · cases x.st.down <;> rfl
      · have := row_base h2 o1.size
        cases hdn : x.st.down <;> (rw [hdn] at this; exact this)))
  unfold ptr at *
  unfold er
  clear h hc hl hs
  go_enter Tryz.func35, Tryz.ntmps35
  go_wp2_with fail
  refine HASK.out.mono ?_
  clear HASK
  rintro x w2 ⟨d, z, rfl, hz, hr, ha⟩
  have HZ := hid hz
  have HR := hid hr
  have HA := hid ha
  clear hz ha hr
  go_wp2_with fail
  go_ret2
  exact ⟨d, by rw [← HZ.out]; rfl, HR.out, HA.out⟩
/-- the suspect ones -/
def susL (l : List Kp) : Nat → List Nat
  | 0 => []
  | k + 1 => susL l k ++ (match l[k]? with | some x => if x.sus then [k] else [] | none => [])
def intCells (l : List Nat) : List Value := l.map fun (k : Nat) => Value.int .i64 (k : Int)
theorem susL_len (l : List Kp) : ∀ k, (susL l k).length ≤ k
  | 0 => Nat.le_refl _
  | k + 1 => by
    have := susL_len l k
    unfold susL
    rw [List.length_append]
    split
    · split <;> simp <;> omega
    · simp; omega
theorem el3 : El 43 3 1 := el_of (z := .int .i64 0) (bytes := 8) Tryz.underlying43 (by kernel_rfl) rfl (by decide) (by decide)
set_option maxHeartbeats 2000000 in
set_option maxRecDepth 20000 in
theorem wsus_any (h : IsWd w S b g W) (hn : W.l.length ≤ 1000) : Calls Tryz.prog 25 #[ptr b] w fun e w' => ∃ v, e = .returned v ∧ w'.ownsRow w.heap.size 3 1 v (susL W.l W.l.length).length (intCells (susL W.l W.l.length)) ∧ Below w.heap.size w w' := by
  have HN := n_any h
  have HH := hid h
  clear h
  unfold ptr at *
  generalize hL : W.l.length = L at *
  have HL := hid hL
  clear hL
  go_enter Tryz.func25, Tryz.ntmps25
  go_wp2_with fail
  refine HN.mono ?_
  clear HN
  rintro x w1 ⟨rfl, rfl⟩
  go_wp2_with fail
  go_loopg [3, 7] L (fun gk s3 s7 wx => ∃ k : Nat, k + gk = L ∧ s7 = .int .i64 (k : Int) ∧ wx.ownsRow w1.heap.size 3 1 s3 (susL W.l k).length (intCells (susL W.l k)) ∧ Below w1.heap.size w1 wx)
  case atStart => exact ⟨0, by omega, rfl, World.ownsRow_nil _ _ _ _, Below.refl _ _⟩
  case round =>
    obtain ⟨k, hk, rfl, hrow, hbw⟩ := hrel
    have HB := hid hbw
    have HRow := hid hrow
    cases gk with
    | zero =>
      have q1 : ¬ ((k : Int) < (L : Int)) := by omega
      have hkn : k = L := by omega
      clear hrow hbw
      go_wp2_with fail
      go_ret
      have := HRow.out
      rw [hkn] at this
      exact ⟨u3, rfl, this, HB.out⟩
    | succ g1 =>
      have q1 : (k : Int) < (L : Int) := by omega
      obtain ⟨x, hx⟩ : ∃ x, W.l[k]? = some x := ⟨_, List.getElem?_eq_getElem (by rw [HL.out]; omega)⟩
      have hI := HH.out.below hbw
      obtain ⟨cap, ⟨c0, _, _, _, _⟩, _, _⟩ := hI.cells
      rw [HL.out] at c0
      obtain ⟨_, k1, _⟩ := hI.kept hx
      have hz : w1.heap.size ≤ wr.heap.size := hbw.size
      have hsl := susL_len W.l k
      cases hsu : x.sus with
      | true =>
        rw [hsu] at k1
        have HT := hid (show susL W.l (k + 1) = susL W.l k ++ [k] from by show susL W.l k ++ _ = _; rw [hx]; simp only [hsu]; rfl)
        clear hx hI hbw hsu
        have HT1 := hid (show (susL W.l (k + 1)).length = (susL W.l k).length + 1 ∧ intCells (susL W.l (k + 1)) = intCells (susL W.l k) ++ [.int .i64 (k : Int)] from by rw [HT.out]; simp [intCells])
        generalize (susL W.l k).length = D at *
        generalize intCells (susL W.l k) = X at *
        go_wp2_with (at_builtin; refine wpList_app el3 rfl _ _ rfl w1.heap.size _ D _ rfl (hrow.alloc _) ⟨wr.heap.size, 0, none⟩ 1 1 [.int .i64 (k : Int)] rfl (by decide) rfl (new_cells wr [.int .i64 (k : Int)] 3) (by simp [Value.oneCell']) (by omega) (by simp; omega) ?_; intro g' cap' w' hr' hgr')
        go_roundg g1
        case measure => omega
        case rel =>
          refine ⟨k + 1, by omega, by first | rfl | simp, ?_, ?_⟩
          · rw [HT1.out.1, HT1.out.2]; exact hr'
          · exact grown_below ((HB.out).alloc hz _) (HRow.out.alloc _) hgr' (Nat.le_refl _) (by simp; omega)
      | false =>
        rw [hsu] at k1
        have HT := hid (show susL W.l (k + 1) = susL W.l k from by show susL W.l k ++ _ = _; rw [hx]; simp only [hsu]; simp)
        clear hx hI hbw hsu hrow
        go_wp2_with fail
        go_roundg g1
        case measure => omega
        case rel => exact ⟨k + 1, by omega, by first | rfl | simp, by rw [HT.out]; exact HRow.out, HB.out⟩
end Go.Proofs.YtgdiaflikfdnaaaGreat
/- The program's world: Clear, Crash, Strike. -/
namespace Go.Proofs.YtgdiaflikfdnaaaGreat
open Go.RowKit Go.Maps
variable {w w' w1 w2 : World} {S : Nat → Prop} {b g : Nat} {W W' : Wd}
theorem kflat_set (l : List Kp) : ∀ (j : Nat) (x : Kp) (v : Bool), l[j]? = some x → (l.set j { x with sus := v }).flatMap kcells = (l.flatMap kcells).set (j * 2 + 1) (.bool v) := by
  induction l with
  | nil => intro j x v h; simp at h
  | cons p r ih =>
    intro j x v h
    cases j with
    | zero => simp at h; subst h; rfl
    | succ j =>
      rw [List.set_cons_succ, List.flatMap_cons, List.flatMap_cons, ih j x v (by simpa using h)]
      have : (kcells p).length = 2 := rfl
      rw [List.set_append_right _ _ (by omega), this, show (j + 1) * 2 + 1 - 2 = j * 2 + 1 by omega]
/-- whether a store is suspect is written -/
theorem AfterW.sus (h : IsWd w S b g W) {j : Nat} {x : Kp} (hj : W.l[j]? = some x) (v : Bool) : AfterW w (w.setCell ⟨g, j * 2 + 1, none⟩ (.bool v)) S b g { W with l := W.l.set j { x with sus := v } } := by
  obtain ⟨cap, F, h1, h2, h3, h4, h5, h6, h7⟩ := h
  have hl : j < W.l.length := (List.getElem?_eq_some_iff.1 hj).1
  have ho : Only (fun k => k = g) w (w.setCell ⟨g, j * 2 + 1, none⟩ (.bool v)) := (Only.refl (fun k => k = g) w).set (p := ⟨g, j * 2 + 1, none⟩) (.inl rfl) _
  have hbg : b ≠ g := fun e => by
    have := row_ne h2 h1 (by decide) g rfl
    exact this e.symm
  refine ⟨S, ⟨cap, F, ?_, ?_, fun k y hk => ?_, by simpa using h4, h5, h6, fun k hk => Nat.lt_of_lt_of_le (h7 k hk) ho.size⟩, fun _ h => .inl h, ho.mono fun k hk => by subst hk; exact h6⟩
  · have := ho.has h1 hbg
    unfold wdcells at this ⊢
    simpa using this
  · simp only [List.length_set]
    rw [kflat_set W.l j x v hj]
    exact (h2.stored (j * 2 + 1) (.bool v)).1
  · by_cases e : k = j
    · subst e
      simp only [List.getElem?_set_self hl, Option.some.injEq] at hk
      subst hk
      obtain ⟨k1, k2, k3, k4⟩ := h3 k x hj
      exact ⟨k1.only ho fun i hi e => k4 (e ▸ hi), k2, k3, k4⟩
    · simp only [List.getElem?_set_ne (Ne.symm e)] at hk
      obtain ⟨k1, k2, k3, k4⟩ := h3 k y hk
      exact ⟨k1.only ho fun i hi e => k4 (e ▸ hi), k2, k3, k4⟩
theorem List.set_getElem?_self' {α : Type} : ∀ {l : List α} {k : Nat} {x : α}, l[k]? = some x → l.set k x = l
  | [], _, _, h => by simp at h
  | a :: r, 0, x, h => by simp at h; subst h; rfl
  | a :: r, k + 1, x, h => by rw [List.set_cons_succ, List.set_getElem?_self' (by simpa using h)]
def soundK (x : Kp) : Bool := !x.st.down && x.st.refuse.isNone
def clearK (x : Kp) : Kp := if soundK x then { x with sus := false } else x
/-- the first k are cleared -/
def clearL (l : List Kp) (k : Nat) : List Kp := (l.take k).map clearK ++ l.drop k
theorem clearL_get {l : List Kp} {k : Nat} {x : Kp} (h : l[k]? = some x) : (clearL l k)[k]? = some x := by
  have hl : k < l.length := (List.getElem?_eq_some_iff.1 h).1
  unfold clearL
  rw [List.getElem?_append_right (by simp; omega), List.length_map, List.length_take, List.getElem?_drop, Nat.min_eq_left (by omega), show k + (k - k) = k by omega]
  exact h
theorem clearL_len (l : List Kp) (k : Nat) : (clearL l k).length = l.length := by
  unfold clearL
  simp
  omega
theorem clearL_succ {l : List Kp} {k : Nat} {x : Kp} (h : l[k]? = some x) : clearL l (k + 1) = (clearL l k).set k (clearK x) := by
  have hl : k < l.length := (List.getElem?_eq_some_iff.1 h).1
  unfold clearL
  rw [List.take_add_one, h, List.map_append, List.set_append_right _ _ (by simp; omega), List.length_map, List.length_take, Nat.min_eq_left (by omega), Nat.sub_self, List.append_assoc]
  congr 1
  have e : l.drop k = x :: l.drop (k + 1) := by
    rw [List.drop_eq_getElem_cons hl]
    congr 1
    exact (List.getElem?_eq_some_iff.1 h).2
  rw [e]; rfl
def clearW (W : Wd) : Wd := { W with l := W.l.map clearK }
theorem clearL_all (l : List Kp) : clearL l l.length = l.map clearK := by unfold clearL; simp
set_option maxHeartbeats 2000000 in
set_option maxRecDepth 20000 in
theorem wclear_any (h : IsWd w S b g W) (hn : W.l.length ≤ 1000) : Calls Tryz.prog 43 #[ptr b] w fun e w' => e = .returned (.tuple #[]) ∧ AfterW w w' S b g (clearW W) := by
  have HN := n_any h
  have HH := hid h
  clear h
  unfold ptr at *
  generalize hL : W.l.length = L at *
  have HL := hid hL
  clear hL
  go_enter Tryz.func43, Tryz.ntmps43
  go_wp2_with fail
  refine HN.mono ?_
  clear HN
  rintro x w1 ⟨rfl, rfl⟩
  go_wp2_with fail
  go_loopg [5] L (fun gk s5 wx => ∃ k : Nat, k + gk = L ∧ s5 = .int .i64 (k : Int) ∧ AfterW w1 wx S b g { W with l := clearL W.l k })
  case atStart => exact ⟨0, by omega, rfl, AfterW.refl HH.out⟩
  case round =>
    obtain ⟨k, hk, rfl, hA⟩ := hrel
    have HA := hid hA
    cases gk with
    | zero =>
      have q1 : ¬ ((k : Int) < (L : Int)) := by omega
      have HE := hid (show ({ W with l := clearL W.l k } : Wd) = clearW W from by
        unfold clearW
        rw [show k = W.l.length by rw [HL.out]; omega, clearL_all])
      clear hA
      go_wp2_with fail
      go_end0
      refine ⟨rfl, ?_⟩
      have := HA.out
      rwa [HE.out] at this
    | succ g1 =>
      have q1 : (k : Int) < (L : Int) := by omega
      obtain ⟨x, hx⟩ : ∃ x, W.l[k]? = some x := ⟨_, List.getElem?_eq_getElem (by rw [HL.out]; omega)⟩
      have hx2 : (clearL W.l k)[k]? = some x := clearL_get hx
      have HT := hid (clearL_succ hx)
      obtain ⟨S2, i2, s2, o2⟩ := hA
      obtain ⟨cap, ⟨c0, _, _, _, _⟩, _, _⟩ := i2.cells
      have c0' : wr.cell? ⟨b, 0, none⟩ = some (.slice (some ⟨g, 0, none⟩) L cap) := by rw [c0]; simp only; rw [clearL_len, HL.out]
      obtain ⟨k0, k1, kf⟩ := i2.kept hx2
      have f1 := kf (k * 2 + 1)
      obtain ⟨T, t1, _, _⟩ := i2.call hx2
      have HSO := sound_any t1
      have HSU := hid (AfterW.trans s2 o2 (AfterW.sus i2 hx2 false))
      unfold ptr at *
      cases hso : soundK x with
      | true =>
        have e1 : (!x.st.down && x.st.refuse.isNone) = true := hso
        rw [e1] at HSO
        have HT2 := hid (show clearK x = { x with sus := false } from by unfold clearK; rw [hso]; rfl)
        clear e1 hso hx hx2 i2 s2 o2 c0 t1
        go_wp2_with fail
        refine HSO.mono ?_
        rintro z w3 ⟨rfl, rfl⟩
        clear HSO
        go_wp2_with fail
        go_roundg g1
        case measure => omega
        case rel => exact ⟨k + 1, by omega, by first | rfl | simp, by rw [HT.out, HT2.out]; exact HSU.out⟩
      | false =>
        have e1 : (!x.st.down && x.st.refuse.isNone) = false := hso
        rw [e1] at HSO
        have HT2 := hid (show (clearL W.l k).set k (clearK x) = clearL W.l k from by
          unfold clearK; rw [hso]
          simp only [Bool.false_eq_true, if_false]
          exact List.set_getElem?_self' hx2)
        clear e1 hso hx hx2 i2 s2 o2 c0 t1 HSU
        go_wp2_with fail
        refine HSO.mono ?_
        rintro z w3 ⟨rfl, rfl⟩
        clear HSO
        go_wp2_with fail
        go_roundg g1
        case measure => omega
        case rel => exact ⟨k + 1, by omega, by first | rfl | simp, by rw [HT.out, HT2.out]; exact HA.out⟩
end Go.Proofs.YtgdiaflikfdnaaaGreat
