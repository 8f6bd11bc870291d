/- The program's world: N, at, Calls, Dark, Cut, count, Up, Objects. -/
import Derived.Test.YteapbbaollmniaaGreatDoorWW1
import Derived.Laws.ResultCell
namespace Go.Proofs.YteapbbaollmniaaGreatDoor.W
open Go.RowKit Go.Maps
variable {w w' w1 w2 : World} {S : Nat → Prop} {b g : Nat} {W W' : Wd}
set_option maxRecDepth 20000 in
theorem n_any (h : IsWd w S b g W) : Calls Tryz.prog 61 #[ptr b] w fun e w' => e = .returned (.int .i64 (W.l.length : Int)) ∧ w' = w := by
  obtain ⟨cap, ⟨c0, c1, c2, c3, c4⟩, _, _⟩ := h.cells
  clear h
  unfold ptr
  generalize W.l.length = n at *
  go_enter Tryz.func61, Tryz.ntmps61
  go_wp2_with fail
  go_ret
  exact ⟨rfl, rfl⟩
/-- where a store's place lies -/
def placeV (g n : Nat) (i : Int) : Value := if 0 ≤ i ∧ i < (n : Int) then .pointer (some ⟨g, i.toNat * 2, none⟩) else .pointer none
set_option maxRecDepth 20000 in
theorem at_any (h : IsWd w S b g W) (i : Int) : Calls Tryz.prog 54 #[ptr b, .int .i64 i] w fun e w' => e = .returned (placeV g W.l.length i) ∧ w' = w := by
  have HN := n_any h
  obtain ⟨cap, ⟨c0, c1, c2, c3, c4⟩, _, _⟩ := h.cells
  clear h
  unfold ptr at *
  unfold placeV
  by_cases h0 : i < 0
  · rw [if_neg (by omega)]
    clear HN
    go_enter Tryz.func54, Tryz.ntmps54
    go_wp2_with fail
    go_ret
    exact ⟨rfl, rfl⟩
  · have q0 : decide (i < 0) = false := decide_eq_false h0
    obtain ⟨k, rfl⟩ := Int.eq_ofNat_of_zero_le (show 0 ≤ i by omega)
    generalize W.l.length = n at *
    by_cases h1 : k < n
    · rw [if_pos ⟨by omega, by omega⟩]
      have q1 : decide ((n : Int) ≤ (k : Int)) = false := decide_eq_false (by omega)
      have q2 : (k : Int) < (n : Int) := by omega
      go_enter Tryz.func54, Tryz.ntmps54
      go_wp2_with fail
      refine HN.mono ?_
      clear HN
      rintro x w1 ⟨rfl, rfl⟩
      go_wp2_with fail
      go_ret
      exact ⟨rfl, rfl⟩
    · rw [if_neg (by omega)]
      have q1 : (n : Int) ≤ (k : Int) := by omega
      go_enter Tryz.func54, Tryz.ntmps54
      go_wp2_with fail
      refine HN.mono ?_
      clear HN
      rintro x w1 ⟨rfl, rfl⟩
      go_wp2_with fail
      go_ret
      exact ⟨rfl, rfl⟩
/-- a call is counted -/
def countW (W : Wd) : Wd := if W.cut then (if W.left = 0 then { W with calls := W.calls + 1, dark := true } else { W with calls := W.calls + 1, left := W.left - 1 }) else { W with calls := W.calls + 1 }
set_option maxRecDepth 20000 in
theorem count_any (h : IsWd w S b g W) (hc : W.calls ≤ 1000000) (hl : W.left < 9223372036854775808) : Calls Tryz.prog 138 #[ptr b] w fun e w' => e = .returned (.tuple #[]) ∧ AfterW w w' S b g (countW W) := by
  have HA := AfterW.turn (W' := { W with calls := W.calls + 1 }) h 1 (.int .i64 ((W.calls + 1 : Nat) : Int)) rfl fun _ => rfl
  have HA1 := hid HA
  have hw1 : IntKind.i64.wrap ((W.calls : Int) + 1) = ((W.calls + 1 : Nat) : Int) := wrapN (b := 1) (by omega)
  obtain ⟨cap, F, h1, _⟩ := h
  have f1 := h1.frozen 1
  have k1 : w.cell? ⟨b, 1, none⟩ = some (.int .i64 (W.calls : Int)) := h1.cell 1
  have h2 := h1.set 1 (.int .i64 ((W.calls + 1 : Nat) : Int))
  have k3 : (w.setCell ⟨b, 1, none⟩ (.int .i64 ((W.calls + 1 : Nat) : Int))).cell? ⟨b, 3, none⟩ = some (.bool W.cut) := h2.cell 3
  have k4 : (w.setCell ⟨b, 1, none⟩ (.int .i64 ((W.calls + 1 : Nat) : Int))).cell? ⟨b, 4, none⟩ = some (.int .i64 (W.left : Int)) := h2.cell 4
  have k2 : (w.setCell ⟨b, 1, none⟩ (.int .i64 ((W.calls + 1 : Nat) : Int))).cell? ⟨b, 2, none⟩ = some (.bool W.dark) := h2.cell 2
  have f2 := h2.frozen 2
  have f4 := h2.frozen 4
  clear h1 h2 HA
  unfold countW ptr
  generalize W.calls + 1 = cc at *
  by_cases hcut : W.cut = true
  · rw [hcut] at k3
    rw [if_pos hcut]
    by_cases h0 : W.left = 0
    · rw [if_pos h0]
      have q0 : ((W.left : Int) == 0) = true := beq_iff_eq.2 (by omega)
      have HA2 := hid (HA1.out.then fun S' h' => AfterW.turn (W' := { W with calls := cc, dark := true }) h' 2 (.bool true) rfl fun _ => rfl)
      clear h0 hcut
      go_enter Tryz.func138, Tryz.ntmps138
      go_wp2_with fail
      try simp only [Exit.inBlock, Exit.then]
      refine bodyPost_ret (results_none rfl _ _ _) rfl ?_
      exact ⟨rfl, HA2.out⟩
    · rw [if_neg h0]
      have q0 : ((W.left : Int) == 0) = false := beq_eq_false_iff_ne.2 (by omega)
      have hw : IntKind.i64.wrap ((W.left : Int) - 1) = ((W.left - 1 : Nat) : Int) := by rw [wrap_i64_of (by omega) (by omega)]; omega
      have HA2 := hid (HA1.out.then fun S' h' => AfterW.turn (W' := { W with calls := cc, left := W.left - 1 }) h' 4 (.int .i64 ((W.left - 1 : Nat) : Int)) rfl fun _ => rfl)
      clear h0 hcut
      generalize W.left - 1 = lf at *
      go_enter Tryz.func138, Tryz.ntmps138
      go_wp2_with fail
      go_end0
      exact ⟨rfl, HA2.out⟩
  · rw [Bool.not_eq_true] at hcut
    rw [hcut] at k3
    rw [if_neg (by rw [hcut]; decide)]
    clear hcut
    go_enter Tryz.func138, Tryz.ntmps138
    go_wp2_with fail
    try simp only [Exit.inBlock, Exit.then]
    refine bodyPost_ret (results_none rfl _ _ _) rfl ?_
    exact ⟨rfl, HA1.out⟩
end Go.Proofs.YteapbbaollmniaaGreatDoor.W
/- The program's world: what is asked of a store, counted. -/
namespace Go.Proofs.YteapbbaollmniaaGreatDoor.W
open Go.RowKit Go.Maps
variable {w w' w1 w2 : World} {S : Nat → Prop} {b g : Nat} {W W' : Wd}
set_option maxHeartbeats 2000000 in
set_option maxRecDepth 20000 in
theorem ask54_any (h : IsWd w S b g W) (hc : W.calls ≤ 1000000) (hl : W.left < 9223372036854775808) (i : Int) (B : Nat) (Q : Ending → World → Prop)
    (h1 : ¬ (0 ≤ i ∧ i < (W.l.length : Int)) → Q (.returned (.tuple #[.string ⟨#[]⟩, .int .i64 1])) w)
    (h2 : 0 ≤ i ∧ i < (W.l.length : Int) → (countW W).dark = true → ∀ w1, AfterW w w1 S b g (countW W) → Q (.returned (.tuple #[.string ⟨#[]⟩, .int .i64 56])) w1)
    (hf : 0 ≤ i ∧ i < (W.l.length : Int) → (countW W).dark = false → ∀ w1, AfterW w w1 S b g (countW W) → Calls Tryz.prog 121 #[.pointer (some ⟨g, i.toNat * 2, none⟩), .pointer (some ⟨B, 0, none⟩)] w1 fun e w' => ∃ (d : ByteArray) (z : Int), e = .returned (.tuple #[.string d, .int .i64 z]) ∧ Q e w') :
    Calls Tryz.prog 120 #[ptr b, .int .i64 i, .func (.func 121) #[] #[.pointer (some ⟨B, 0, none⟩)]] w Q := by
  have HA := at_any h i
  have HC := count_any h hc hl
  unfold placeV at HA
  by_cases h0 : 0 ≤ i ∧ i < (W.l.length : Int)
  · rw [if_pos h0] at HA
    have HF := hid (hf h0)
    have H2 := hid (h2 h0)
    unfold ptr at *
    clear h hf h1 h2 h0 hc hl
    go_enter Tryz.func120, Tryz.ntmps120
    go_wp2_with fail
    refine HA.mono ?_
    clear HA
    rintro x w1 ⟨rfl, rfl⟩
    go_wp2_with fail
    refine HC.mono ?_
    clear HC
    rintro x w2 ⟨rfl, ha⟩
    have HA2 := hid ha
    obtain ⟨S2, hi2, _, _⟩ := ha
    obtain ⟨cap, ⟨c0, c1, c2, c3, c4⟩, _, _⟩ := hi2.cells
    clear hi2 c0 c1 c3 c4
    cases hd : (countW W).dark with
    | true =>
      rw [hd] at c2
      have HQ := hid (H2.out hd w2 HA2.out)
      clear hd H2 HF
      go_wp2_with fail
      exact HQ.out
    | false =>
      rw [hd] at c2
      have HFF := HF.out hd w2 HA2.out
      clear hd HF H2
      go_wp2_with fail
      refine HFF.mono ?_
      clear HFF
      rintro x w3 ⟨d, z, rfl, hq⟩
      have HQ := hid hq
      clear hq
      go_wp2_with fail
      exact HQ.out
  · rw [if_neg h0] at HA
    have H1 := hid (h1 h0)
    clear h hf HC h0 h1 h2
    unfold ptr at *
    go_enter Tryz.func120, Tryz.ntmps120
    go_wp2_with fail
    refine HA.mono ?_
    clear HA
    rintro x w1 ⟨rfl, rfl⟩
    go_wp2_with fail
    exact H1.out
end Go.Proofs.YteapbbaollmniaaGreatDoor.W
/- The program's world: what is asked of a store, counted: answers that are an error alone, and lists. -/
namespace Go.Proofs.YteapbbaollmniaaGreatDoor.W
open Go.RowKit Go.Maps
variable {w w' w1 w2 : World} {S : Nat → Prop} {b g : Nat} {W W' : Wd}
theorem load82 (w : World) (q : Nat) : (loadVar 157 ⟨q, 0, none⟩).run Tryz.prog w = .ok (.agg #[]) w := run_loadVar_mid w q 0 157 [] _ (fun j u hu => by simp at hu) Tryz.underlying157 rfl (by kernel_rfl)
/-- the answer: nothing, and an error -/
theorem ret82 {f : Func} {p u : Tmp} (hr : f.results = #[.cell p 157, .tmp u]) {Q : Ending → World → Prop} {a : Act} {w : World} {q : Nat} {z : Int} (hd : a.defers = []) (hp : a.tmps.getD p undef = .pointer (some ⟨q, 0, none⟩)) (hu : a.tmps.getD u undef = .int .i64 z) (h : Q (.returned (.tuple #[.agg #[], .int .i64 z])) w) : bodyPost Tryz.prog f Q .ret a w := by
  refine bodyPost_ret (v := .tuple #[.agg #[], .int .i64 z]) ?_ hd h
  rw [results_cell_tmp hr, hp, hu]
  have := load82 w q
  simp [asAddr, this, Result.andThen]
set_option maxHeartbeats 2000000 in
set_option maxRecDepth 20000 in
theorem ask48_any (h : IsWd w S b g W) (hc : W.calls ≤ 1000000) (hl : W.left < 9223372036854775808) (i : Int) (B : Nat) (Q : Ending → World → Prop)
    (h1 : ¬ (0 ≤ i ∧ i < (W.l.length : Int)) → ∀ w1, Below w.heap.size w w1 → Q (.returned (.tuple #[.agg #[], .int .i64 1])) w1)
    (h2 : 0 ≤ i ∧ i < (W.l.length : Int) → (countW W).dark = true → ∀ w1, AfterW w w1 S b g (countW W) → Q (.returned (.tuple #[.agg #[], .int .i64 56])) w1)
    (hf : 0 ≤ i ∧ i < (W.l.length : Int) → (countW W).dark = false → ∀ w1, AfterW w w1 S b g (countW W) → Calls Tryz.prog 139 #[.pointer (some ⟨g, i.toNat * 2, none⟩), .pointer (some ⟨B, 0, none⟩)] w1 fun e w' => ∃ z : Int, e = .returned (.tuple #[.agg #[], .int .i64 z]) ∧ Q e w') :
    Calls Tryz.prog 87 #[ptr b, .int .i64 i, .func (.func 139) #[] #[.pointer (some ⟨B, 0, none⟩)]] w Q := by
  have HB := hid (show Below w.heap.size w ((w.alloc (.cells #[] 157)).alloc (.cells #[] 157)) from (boxed w _).trans ((boxed (w.alloc (.cells #[] 157)) _).mono (by simp)))
  have h' := h.below HB.out
  have HA := at_any h' i
  have HC := count_any h' hc hl
  unfold placeV at HA
  by_cases h0 : 0 ≤ i ∧ i < (W.l.length : Int)
  · rw [if_pos h0] at HA
    have HF := hid (hf h0)
    have H2 := hid (h2 h0)
    unfold ptr at *
    clear h h' hf h1 h2 h0 hc hl
    go_enter Tryz.func87, Tryz.ntmps87
    go_wp2_with fail
    refine HA.mono ?_
    clear HA
    rintro x w1 ⟨rfl, rfl⟩
    go_wp2_with fail
    refine HC.mono ?_
    clear HC
    rintro x w2 ⟨rfl, ha⟩
    have HA2 := hid (AfterW.front HB.out ha)
    obtain ⟨S2, hi2, _, _⟩ := ha
    obtain ⟨cap, ⟨c0, c1, c2, c3, c4⟩, _, _⟩ := hi2.cells
    clear hi2 c0 c1 c3 c4
    cases hd : (countW W).dark with
    | true =>
      rw [hd] at c2
      have HQ := hid (H2.out hd w2 HA2.out)
      clear hd H2 HF
      go_wp2_with fail
      exact ret82 rfl rfl rfl rfl HQ.out
    | false =>
      rw [hd] at c2
      have HFF := HF.out hd w2 HA2.out
      clear hd HF H2
      go_wp2_with fail
      refine HFF.mono ?_
      clear HFF
      rintro x w3 ⟨z, rfl, hq⟩
      have HQ := hid hq
      clear hq
      go_wp2_with fail
      exact ret82 rfl rfl rfl rfl HQ.out
  · rw [if_neg h0] at HA
    have H1 := hid (h1 h0 _ HB.out)
    clear h h' hf HC h0 h1 h2
    unfold ptr at *
    go_enter Tryz.func87, Tryz.ntmps87
    go_wp2_with fail
    refine HA.mono ?_
    clear HA
    rintro x w1 ⟨rfl, rfl⟩
    go_wp2_with fail
    exact ret82 rfl rfl rfl rfl H1.out
end Go.Proofs.YteapbbaollmniaaGreatDoor.W
/- The program's world: Put and Del. -/
namespace Go.Proofs.YteapbbaollmniaaGreatDoor.W
open Go.RowKit Go.Maps
variable {w w' w1 w2 : World} {S : Nat → Prop} {b g : Nat} {W W' : Wd}
section
variable {ev : Operand → Value} {o : Oper} {w : World} {x y : Operand}
theorem rn_load63 {g k : Nat} {v : Value} (ho : o.op = .load 71 x) (hx : ev x = .pointer (some ⟨g, k, none⟩)) (hc : w.cell? ⟨g, k, none⟩ = some v) : (execOp ev o).run Tryz.prog w = .ok (.value v) w := by
  simp [execOp, ho, hx, go_sem, hc]
theorem rn_f66_0 {g k : Nat} (ho : o.op = .fieldAddr 74 x 0) (hx : ev x = .pointer (some ⟨g, k, none⟩)) : (execOp ev o).run Tryz.prog w = .ok (.value (.pointer (some ⟨g, k, none⟩))) w := by
  simp [execOp, ho, hx, go_sem]
end
theorem countW_l (W : Wd) : (countW W).l = W.l := by
  unfold countW
  split
  · split <;> rfl
  · rfl
set_option maxRecDepth 20000 in
theorem alone_any (w : World) (F : Fn) (C : Array Value) : Calls Tryz.prog 88 #[.func F #[] C] w fun e w' => e = .returned (.func (.func 139) #[] #[.pointer (some ⟨w.heap.size, 0, none⟩)]) ∧ w' = w.alloc (.cells #[.func F #[] C] 163) := by
  go_enter Tryz.func88, Tryz.ntmps88
  go_wp2_with fail
  go_ret
  exact ⟨rfl, rfl⟩
set_option maxRecDepth 20000 in
theorem alone50 (w : World) (k : Value) (B1 B2 : Nat) (hB : w.cell? ⟨B1, 0, none⟩ = some (.func (.func 89) #[] #[.pointer (some ⟨B2, 0, none⟩)])) (hBl : B1 < w.heap.size) (Q : Int → World → Prop) (hf : ∀ w1, Below w.heap.size w w1 → Calls Tryz.prog 89 #[k, .pointer (some ⟨B2, 0, none⟩)] w1 fun e w' => ∃ z : Int, e = .returned (.int .i64 z) ∧ Q z w') : Calls Tryz.prog 139 #[k, .pointer (some ⟨B1, 0, none⟩)] w fun e w' => ∃ z : Int, e = .returned (.tuple #[.agg #[], .int .i64 z]) ∧ Q z w' := by
  have HF := hf _ (boxed w (.cells #[] 157))
  have c0 : (w.alloc (.cells #[] 157)).cell? ⟨B1, 0, none⟩ = some (.func (.func 89) #[] #[.pointer (some ⟨B2, 0, none⟩)]) := by rw [(boxed w (.cells #[] 157)).cell (p := ⟨B1, 0, none⟩) hBl]; exact hB
  clear hf hB hBl
  go_enter Tryz.func139, Tryz.ntmps139
  go_wp2_with fail
  refine HF.mono ?_
  clear HF
  rintro x w1 ⟨z, rfl, hq⟩
  have HQ := hid hq
  clear hq
  go_wp2_with fail
  exact ret82 rfl rfl rfl rfl ⟨z, rfl, HQ.out⟩
def ptF (g j blk : Nat) (n d : ByteArray) (i : Nat) (v : Value) (_ : World) : Prop := match i with
  | 4 => v = .pointer (some ⟨g, j * 2, none⟩) | 5 => v = .pointer (some ⟨g, j * 2, none⟩) | 6 => v = .pointer (some ⟨g, j * 2, none⟩)
  | 7 => v = .pointer (some ⟨blk, 0, none⟩) | 8 => v = .agg #[.string n, .string d]
  | _ => True
set_option maxHeartbeats 1000000 in
set_option maxRecDepth 20000 in
theorem put1_any (w : World) (j blk B2 : Nat) (n d : ByteArray) (c0 : w.cell? ⟨g, j * 2, none⟩ = some (.pointer (some ⟨blk, 0, none⟩))) (o0 : w.cell? ⟨B2, 0, none⟩ = some (.string n)) (o1 : w.cell? ⟨B2, 1, none⟩ = some (.string d)) (Q : Int → World → Prop) (hf : Calls Tryz.prog 90 #[.pointer (some ⟨blk, 0, none⟩), .agg #[.string n, .string d]] w.drew fun e w' => ∃ z : Int, e = .returned (.int .i64 z) ∧ Q z w') : Calls Tryz.prog 89 #[.pointer (some ⟨g, j * 2, none⟩), .pointer (some ⟨B2, 0, none⟩)] w fun e w' => ∃ z : Int, e = .returned (.int .i64 z) ∧ Q z w' := by
  go_enter Tryz.func89, Tryz.ntmps89
  go_wp2_with fail
  refine Tl.wp_mix_lit (by kernel_rfl) 5 [4, 5, 6, 7, 8] 10 rfl (by kernel_rfl) (AtW w.drew) (ptF g j blk n d) rfl
    ⟨fun a' W' hC hF => ?_, fun a' W' hC hF => ?_, fun a' W' hC hF => ?_, fun a' W' hC hF => ?_, fun a' W' hC hF => ?_, trivial⟩ ?_
  · exact Tl.sm_v 4 _ rfl (Tl.wanted_none rfl) hC rfl (rn_move rfl ((hF 0 (by decide +kernel)).2 (by decide)))
  · exact Tl.sm_v 5 _ rfl (Tl.wanted_none rfl) hC rfl (rn_nilCheck rfl ((hF 4 (by decide +kernel)).1 (by decide)))
  · exact Tl.sm_v 6 _ rfl (Tl.wanted_none rfl) hC rfl (rn_f66_0 rfl ((hF 5 (by decide +kernel)).1 (by decide)))
  · exact Tl.sm_v 7 _ rfl (Tl.wanted_none rfl) hC rfl (rn_load63 rfl ((hF 6 (by decide +kernel)).1 (by decide)) (by rw [show W' = _ from hC]; exact c0))
  · exact Tl.sm_v 8 _ rfl (Tl.wanted_none rfl) hC rfl (rn_load28 rfl ((hF 1 (by decide +kernel)).2 (by decide)) (by rw [show W' = _ from hC]; exact o0) (by rw [show W' = _ from hC]; exact o1))
  intro v wB hw hv
  obtain rfl : wB = _ := hw
  have v7 : v 7 = .pointer (some ⟨blk, 0, none⟩) := hv 7 (by decide)
  have v8 : v 8 = .agg #[.string n, .string d] := hv 8 (by decide)
  clear hv c0 o0 o1
  simp only [Tl.fill, List.drop_succ_cons, List.drop_zero]
  simp only [Act.put, List.setIfInBounds_toArray, List.set_cons_succ, List.set_cons_zero, v7, v8]
  clear v7 v8
  go_wp2_with fail
  refine hf.mono ?_
  clear hf
  rintro x w1 ⟨z, rfl, hq⟩
  have HQ := hid hq
  clear hq
  go_wp2_with fail
  go_ret
  exact ⟨z, rfl, HQ.out⟩
/-- what is asked of a store, counted -/
def askS (W : Wd) (i : Int) (f : St → Int × St) : Int × Wd := if 0 ≤ i ∧ i < (W.l.length : Int) then (if (countW W).dark then (56, countW W) else match (countW W).l[i.toNat]? with
  | some x => ((f x.st).1, { countW W with l := (countW W).l.set i.toNat { x with st := (f x.st).2 } })
  | none => (56, countW W)) else (1, W)
theorem askS_no {W : Wd} {i : Int} {f : St → Int × St} (h : ¬ (0 ≤ i ∧ i < (W.l.length : Int))) : askS W i f = (1, W) := by unfold askS; rw [if_neg h]
theorem askS_dark {W : Wd} {i : Int} {f : St → Int × St} (h : 0 ≤ i ∧ i < (W.l.length : Int)) (hd : (countW W).dark = true) : askS W i f = (56, countW W) := by unfold askS; rw [if_pos h, if_pos hd]
theorem askS_does {W : Wd} {i : Int} {f : St → Int × St} (h : 0 ≤ i ∧ i < (W.l.length : Int)) (hd : (countW W).dark = false) : ∃ x, (countW W).l[i.toNat]? = some x ∧ x ∈ W.l ∧ askS W i f = ((f x.st).1, { countW W with l := (countW W).l.set i.toNat { x with st := (f x.st).2 } }) := by
  obtain ⟨x, hx⟩ : ∃ x, (countW W).l[i.toNat]? = some x := ⟨_, List.getElem?_eq_getElem (by rw [countW_l]; omega)⟩
  refine ⟨x, hx, by rw [countW_l] at hx; exact List.mem_of_getElem? hx, ?_⟩
  unfold askS
  rw [if_pos h, if_neg (by rw [hd]; decide), hx]
set_option maxHeartbeats 2000000 in
set_option maxRecDepth 20000 in
theorem wput_any (h : IsWd w S b g W) (hc : W.calls ≤ 1000000) (hl : W.left < 9223372036854775808) {N : Nat} (hF : ∀ x ∈ W.l, Fit N x.st) (hN : N ≤ 1000000) (i : Int) (n d : ByteArray) : Calls Tryz.prog 43 #[ptr b, .int .i64 i, obv n d] w fun e w' => e = .returned (er (askS W i fun s => putS s n d).1) ∧ AfterW w w' S b g (askS W i fun s => putS s n d).2 := by
  have HB := hid (boxed w (.cells #[.string n, .string d] 101))
  have HX := hid (Has.new w w.heap.size #[.string n, .string d] 101 rfl)
  have HH := hid (h.below HB.out)
  have HNS : Hid (¬ S w.heap.size) := hid fun hS => by have := h.bound _ hS; omega
  obtain ⟨wa, hwa⟩ : ∃ wa, wa = w.alloc (.cells #[.string n, .string d] 101) := ⟨_, rfl⟩
  rw [← hwa] at HB HX HH
  have HAL := alone_any wa (.func 89) #[.pointer (some ⟨w.heap.size, 0, none⟩)]
  have HASK := hid (ask48_any (HH.out.below (boxed wa (.cells #[.func (.func 89) #[] #[.pointer (some ⟨w.heap.size, 0, none⟩)]] 163))) hc hl i wa.heap.size (fun e w' => ∃ z : Int, e = .returned (.tuple #[.agg #[], .int .i64 z]) ∧ z = (askS W i fun s => putS s n d).1 ∧ AfterW w w' S b g (askS W i fun s => putS s n d).2)
    (fun h0 w1 hb => ⟨1, rfl, by rw [askS_no h0], by rw [askS_no h0]; exact AfterW.front HB.out ((AfterW.refl (HH.out.below (boxed wa _))).front (boxed wa _) |>.next hb)⟩)
    (fun h0 hd w1 ha => ⟨56, rfl, by rw [askS_dark h0 hd], by rw [askS_dark h0 hd]; exact AfterW.front HB.out (AfterW.front (boxed wa _) ha)⟩)
    (fun h0 hd w1 ha => by
      obtain ⟨x, hx, hxm, e⟩ := askS_does (f := fun s => putS s n d) h0 hd
      rw [e]
      have hbx : Has w1 wa.heap.size #[.func (.func 89) #[] #[.pointer (some ⟨w.heap.size, 0, none⟩)]] 163 := ha.has (Has.new wa _ _ _ rfl) fun hS => by
        have := HH.out.bound _ hS; omega
      have hob : Has w1 w.heap.size #[.string n, .string d] 101 := ha.has (HX.out.alloc _) HNS.out
      refine (alone50 w1 _ wa.heap.size w.heap.size (hbx.cell 0) hbx.lt (fun z w' => z = (putS x.st n d).1 ∧ AfterW w w' S b g { countW W with l := (countW W).l.set i.toNat { x with st := (putS x.st n d).2 } }) (fun w2 hb2 => ?_)).mono fun e w' ⟨z, h1, h2, h3⟩ => ⟨z, h1, z, h1, h2, h3⟩
      have ha2 := (AfterW.front HB.out (AfterW.front (boxed wa _) ha)).next hb2
      obtain ⟨S2, i2, s2, o2⟩ := ha2
      obtain ⟨c0, _, _⟩ := i2.kept hx
      have hob2 := hob.below hb2 hob.lt
      refine put1_any w2 i.toNat x.blk w.heap.size n d c0 (hob2.cell 0) (hob2.cell 1) _ ?_
      obtain ⟨T, t1, _, t3⟩ := (i2.below (Below.refl _ _).drew).call hx
      refine (put_any t1 (hF x hxm) hN n d).mono fun e w3 ⟨h1, h2⟩ => ⟨_, h1, rfl, AfterW.trans s2 o2 ?_⟩
      exact AfterW.front (Below.refl _ _).drew (t3 _ _ h2)))
  unfold ptr at *
  unfold obv er
  clear h hF hc hl
  go_enter Tryz.func43, Tryz.ntmps43
  go_wp2_with fail
  rw [← hwa]
  refine HAL.mono ?_
  clear HAL hwa
  rintro x w1 ⟨rfl, rfl⟩
  go_wp2_with fail
  refine HASK.out.mono ?_
  clear HASK
  rintro x w2 ⟨z, rfl, hz, ha⟩
  have HZ := hid hz
  have HA := hid ha
  clear hz ha
  go_wp2_with fail
  go_ret
  exact ⟨by rw [HZ.out]; rfl, HA.out.next (boxed _ _)⟩
end Go.Proofs.YteapbbaollmniaaGreatDoor.W
