/- The program's world: N, at, Calls, Dark, Cut, count, Up, Objects. -/
import Derived.Test.YtgdiaflikfdnaaaW1
namespace Go.Proofs.Ytgdiaflikfdnaaa
open Go.RowKit Go.Maps
variable {w w' w1 w2 : World} {S : Nat → Prop} {b g : Nat} {W W' : Wd}
set_option maxRecDepth 20000 in
theorem n_any (h : IsWd w S b g W) : Calls Try.prog 15 #[ptr b] w fun e w' => e = .returned (.int .i64 (W.l.length : Int)) ∧ w' = w := by
  obtain ⟨cap, ⟨c0, c1, c2, c3, c4⟩, _, _⟩ := h.cells
  clear h
  unfold ptr
  generalize W.l.length = n at *
  go_enter Try.func15, Try.ntmps15
  go_wp2_with fail
  go_ret
  exact ⟨rfl, rfl⟩
set_option maxRecDepth 20000 in
theorem calls_any (h : IsWd w S b g W) : Calls Try.prog 16 #[ptr b] w fun e w' => e = .returned (.int .i64 (W.calls : Int)) ∧ w' = w := by
  obtain ⟨cap, ⟨c0, c1, c2, c3, c4⟩, _, _⟩ := h.cells
  clear h
  unfold ptr
  go_enter Try.func16, Try.ntmps16
  go_wp2_with fail
  go_ret
  exact ⟨rfl, rfl⟩
set_option maxRecDepth 20000 in
theorem dark_any (h : IsWd w S b g W) : Calls Try.prog 17 #[ptr b] w fun e w' => e = .returned (.bool W.dark) ∧ w' = w := by
  obtain ⟨cap, ⟨c0, c1, c2, c3, c4⟩, _, _⟩ := h.cells
  clear h
  unfold ptr
  go_enter Try.func17, Try.ntmps17
  go_wp2_with fail
  go_ret
  exact ⟨rfl, rfl⟩
/-- where a store's place lies -/
def placeV (g n : Nat) (i : Int) : Value := if 0 ≤ i ∧ i < (n : Int) then .pointer (some ⟨g, i.toNat * 2, none⟩) else .pointer none
set_option maxRecDepth 20000 in
theorem at_any (h : IsWd w S b g W) (i : Int) : Calls Try.prog 33 #[ptr b, .int .i64 i] w fun e w' => e = .returned (placeV g W.l.length i) ∧ w' = w := by
  have HN := n_any h
  obtain ⟨cap, ⟨c0, c1, c2, c3, c4⟩, _, _⟩ := h.cells
  clear h
  unfold ptr at *
  unfold placeV
  by_cases h0 : i < 0
  · rw [if_neg (by omega)]
    clear HN
    go_enter Try.func33, Try.ntmps33
    go_wp2_with fail
    go_ret
    exact ⟨rfl, rfl⟩
  · have q0 : decide (i < 0) = false := decide_eq_false h0
    obtain ⟨k, rfl⟩ := Int.eq_ofNat_of_zero_le (show 0 ≤ i by omega)
    generalize W.l.length = n at *
    by_cases h1 : k < n
    · rw [if_pos ⟨by omega, by omega⟩]
      have q1 : decide ((n : Int) ≤ (k : Int)) = false := decide_eq_false (by omega)
      have q2 : (k : Int) < (n : Int) := by omega
      go_enter Try.func33, Try.ntmps33
      go_wp2_with fail
      refine HN.mono ?_
      clear HN
      rintro x w1 ⟨rfl, rfl⟩
      go_wp2_with fail
      go_ret
      exact ⟨rfl, rfl⟩
    · rw [if_neg (by omega)]
      have q1 : (n : Int) ≤ (k : Int) := by omega
      go_enter Try.func33, Try.ntmps33
      go_wp2_with fail
      refine HN.mono ?_
      clear HN
      rintro x w1 ⟨rfl, rfl⟩
      go_wp2_with fail
      go_ret
      exact ⟨rfl, rfl⟩
def cutW (W : Wd) (a : Int) : Int × Wd := if a < 0 then (1, W) else (0, { W with cut := true, left := a.toNat })
set_option maxRecDepth 20000 in
theorem cut_any (h : IsWd w S b g W) (a : Int) : Calls Try.prog 9 #[ptr b, .int .i64 a] w fun e w' => e = .returned (er (cutW W a).1) ∧ AfterW w w' S b g (cutW W a).2 := by
  have HR := hid (AfterW.refl h)
  unfold cutW er
  by_cases h0 : a < 0
  · rw [if_pos h0]
    clear h
    unfold ptr
    go_enter Try.func9, Try.ntmps9
    go_wp2_with fail
    go_ret
    exact ⟨rfl, HR.out⟩
  · rw [if_neg h0]
    obtain ⟨k, rfl⟩ := Int.eq_ofNat_of_zero_le (show 0 ≤ a by omega)
    have q0 : decide ((k : Int) < 0) = false := decide_eq_false h0
    have HA := hid ((AfterW.turn (W' := { W with cut := true }) h 3 (.bool true) rfl fun _ => rfl).then fun S' h' => AfterW.turn (W' := { W with cut := true, left := k }) h' 4 (.int .i64 (k : Int)) rfl fun _ => rfl)
    obtain ⟨cap, F, h1, _⟩ := h
    have f3 := h1.frozen 3
    have k3 : w.cell? ⟨b, 3, none⟩ = some (.bool W.cut) := h1.cell 3
    have h2 := h1.set 3 (.bool true)
    have f4 := h2.frozen 4
    have k4 : (w.setCell ⟨b, 3, none⟩ (.bool true)).cell? ⟨b, 4, none⟩ = some (.int .i64 (W.left : Int)) := h2.cell 4
    clear h1 h2 h0
    unfold ptr
    go_enter Try.func9, Try.ntmps9
    go_wp2_with fail
    go_ret
    exact ⟨rfl, HA.out⟩
/-- a call is counted -/
def countW (W : Wd) : Wd := if W.cut then (if W.left = 0 then { W with calls := W.calls + 1, dark := true } else { W with calls := W.calls + 1, left := W.left - 1 }) else { W with calls := W.calls + 1 }
set_option maxRecDepth 20000 in
theorem count_any (h : IsWd w S b g W) (hc : W.calls ≤ 1000000) (hl : W.left < 9223372036854775808) : Calls Try.prog 43 #[ptr b] w fun e w' => e = .returned (.tuple #[]) ∧ AfterW w w' S b g (countW W) := by
  have HA := AfterW.turn (W' := { W with calls := W.calls + 1 }) h 1 (.int .i64 ((W.calls + 1 : Nat) : Int)) rfl fun _ => rfl
  have HA1 := hid HA
  have hw1 : IntKind.i64.wrap ((W.calls : Int) + 1) = ((W.calls + 1 : Nat) : Int) := wrapN (b := 1) (by omega)
  obtain ⟨cap, F, h1, _⟩ := h
  have f1 := h1.frozen 1
  have k1 : w.cell? ⟨b, 1, none⟩ = some (.int .i64 (W.calls : Int)) := h1.cell 1
  have h2 := h1.set 1 (.int .i64 ((W.calls + 1 : Nat) : Int))
  have k3 : (w.setCell ⟨b, 1, none⟩ (.int .i64 ((W.calls + 1 : Nat) : Int))).cell? ⟨b, 3, none⟩ = some (.bool W.cut) := h2.cell 3
  have k4 : (w.setCell ⟨b, 1, none⟩ (.int .i64 ((W.calls + 1 : Nat) : Int))).cell? ⟨b, 4, none⟩ = some (.int .i64 (W.left : Int)) := h2.cell 4
  have k2 : (w.setCell ⟨b, 1, none⟩ (.int .i64 ((W.calls + 1 : Nat) : Int))).cell? ⟨b, 2, none⟩ = some (.bool W.dark) := h2.cell 2
  have f2 := h2.frozen 2
  have f4 := h2.frozen 4
  clear h1 h2 HA
  unfold countW ptr
  generalize W.calls + 1 = cc at *
  by_cases hcut : W.cut = true
  · rw [hcut] at k3
    rw [if_pos hcut]
    by_cases h0 : W.left = 0
    · rw [if_pos h0]
      have q0 : ((W.left : Int) == 0) = true := beq_iff_eq.2 (by omega)
      have HA2 := hid (HA1.out.then fun S' h' => AfterW.turn (W' := { W with calls := cc, dark := true }) h' 2 (.bool true) rfl fun _ => rfl)
      clear h0 hcut
      go_enter Try.func43, Try.ntmps43
      go_wp2_with fail
      try simp only [Exit.inBlock, Exit.then]
      refine bodyPost_ret (results_none rfl _ _ _) rfl ?_
      exact ⟨rfl, HA2.out⟩
    · rw [if_neg h0]
      have q0 : ((W.left : Int) == 0) = false := beq_eq_false_iff_ne.2 (by omega)
      have hw : IntKind.i64.wrap ((W.left : Int) - 1) = ((W.left - 1 : Nat) : Int) := by rw [wrap_i64_of (by omega) (by omega)]; omega
      have HA2 := hid (HA1.out.then fun S' h' => AfterW.turn (W' := { W with calls := cc, left := W.left - 1 }) h' 4 (.int .i64 ((W.left - 1 : Nat) : Int)) rfl fun _ => rfl)
      clear h0 hcut
      generalize W.left - 1 = lf at *
      go_enter Try.func43, Try.ntmps43
      go_wp2_with fail
      go_end0
      exact ⟨rfl, HA2.out⟩
  · rw [Bool.not_eq_true] at hcut
    rw [hcut] at k3
    rw [if_neg (by rw [hcut]; decide)]
    clear hcut
    go_enter Try.func43, Try.ntmps43
    go_wp2_with fail
    try simp only [Exit.inBlock, Exit.then]
    refine bodyPost_ret (results_none rfl _ _ _) rfl ?_
    exact ⟨rfl, HA1.out⟩
def upW (W : Wd) (i : Int) : Bool := if 0 ≤ i ∧ i < (W.l.length : Int) then (match W.l[i.toNat]? with | some x => !x.st.down | none => false) else false
set_option maxRecDepth 20000 in
theorem wup_any (h : IsWd w S b g W) (i : Int) : Calls Try.prog 18 #[ptr b, .int .i64 i] w fun e w' => e = .returned (.bool (upW W i)) ∧ w' = w := by
  have HA := at_any h i
  unfold upW
  unfold placeV at HA
  by_cases h0 : 0 ≤ i ∧ i < (W.l.length : Int)
  · rw [if_pos h0] at HA ⊢
    obtain ⟨k, rfl⟩ := Int.eq_ofNat_of_zero_le h0.1
    obtain ⟨x, hx⟩ : ∃ x, W.l[k]? = some x := ⟨_, List.getElem?_eq_getElem (by omega)⟩
    obtain ⟨c0, c1, _⟩ := h.kept hx
    obtain ⟨T, t1, _, _⟩ := h.call hx
    have HU := up_any t1
    rw [Int.toNat_natCast] at *
    rw [hx]
    simp only
    unfold ptr at *
    clear h hx t1 h0
    go_enter Try.func18, Try.ntmps18
    go_wp2_with fail
    refine HA.mono ?_
    clear HA
    rintro z w1 ⟨rfl, rfl⟩
    go_wp2_with fail
    refine HU.mono ?_
    clear HU
    rintro z w1 ⟨rfl, rfl⟩
    go_wp2_with fail
    go_ret
    exact ⟨rfl, rfl⟩
  · rw [if_neg h0] at HA ⊢
    clear h h0
    unfold ptr at *
    go_enter Try.func18, Try.ntmps18
    go_wp2_with fail
    refine HA.mono ?_
    clear HA
    rintro z w1 ⟨rfl, rfl⟩
    go_wp2_with fail
    go_ret
    exact ⟨rfl, rfl⟩
def objsW (W : Wd) (i : Int) : List Ob := if 0 ≤ i ∧ i < (W.l.length : Int) then (match W.l[i.toNat]? with | some x => x.st.seen | none => []) else []
set_option maxRecDepth 20000 in
theorem wobjs_any (h : IsWd w S b g W) (hs : ∀ x ∈ W.l, x.st.seen.length ≤ 1000000) (i : Int) : Calls Try.prog 19 #[ptr b, .int .i64 i] w fun e w' => ∃ v, e = .returned v ∧ w'.ownsRow w.heap.size 33 2 v (objsW W i).length (objCells (objsW W i)) ∧ Below w.heap.size w w' := by
  have HA := at_any h i
  unfold objsW
  unfold placeV at HA
  by_cases h0 : 0 ≤ i ∧ i < (W.l.length : Int)
  · rw [if_pos h0] at HA
    rw [if_pos h0]
    obtain ⟨k, rfl⟩ := Int.eq_ofNat_of_zero_le h0.1
    obtain ⟨x, hx⟩ : ∃ x, W.l[k]? = some x := ⟨_, List.getElem?_eq_getElem (by omega)⟩
    obtain ⟨c0, c1, _⟩ := h.kept hx
    obtain ⟨T, t1, _, _⟩ := h.call hx
    have HU := objects_any t1 (hs x (List.mem_of_getElem? hx))
    rw [Int.toNat_natCast] at *
    rw [hx]
    simp only
    unfold ptr at *
    clear h hx t1 h0 hs
    go_enter Try.func19, Try.ntmps19
    go_wp2_with fail
    refine HA.mono ?_
    clear HA
    rintro z w1 ⟨rfl, rfl⟩
    go_wp2_with fail
    refine HU.mono ?_
    clear HU
    rintro z w2 ⟨v, rfl, hr, hb⟩
    have HR := hid hr
    have HB := hid hb
    clear hr hb
    go_wp2_with fail
    go_ret
    exact ⟨v, rfl, HR.out, HB.out⟩
  · rw [if_neg h0] at HA
    rw [if_neg h0]
    clear h h0 hs
    unfold ptr at *
    go_enter Try.func19, Try.ntmps19
    go_wp2_with fail
    refine HA.mono ?_
    clear HA
    rintro z w1 ⟨rfl, rfl⟩
    go_wp2_with fail
    go_ret
    exact ⟨_, rfl, World.ownsRow_nil _ _ _ _, Below.refl _ _⟩
end Go.Proofs.Ytgdiaflikfdnaaa
