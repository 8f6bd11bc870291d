/- The document's Same; whether a path is that of a directory; whether a list is too much; what one may hold, and what it is. -/
import Derived.Test.YtnhekngmgjnodaaDoorSame
namespace Go.Proofs.YtnhekngmgjnodaaDoor
open Go.RowKit
open Pa
set_option linter.unusedVariables false
set_option maxRecDepth 20000 in
set_option maxHeartbeats 4000000 in
theorem refSame_any (l m : List Fl) (A B : Option Addr) (c d : Nat) (hs : Small l) (ht : Small m) (w : World) (hl : Fs w A l) (hm : Fs w B m) :
    Calls Tryd.prog 19 #[.slice A l.length c, .slice B m.length d] w fun e w' => e = .returned (.bool (decide (l = m))) ∧ Below w.heap.size w w' := by
  by_cases hlen : l.length = m.length
  case neg =>
    have e1 : decide (l = m) = false := decide_eq_false (fun h => hlen (by rw [h]))
    rw [e1]
    have i1 : ((l.length : Int) != (m.length : Int)) = true := by simp; omega
    have i2 : ¬ (l.length : Int) = (m.length : Int) := by omega
    clear e1 hl hm
    generalize l.length = x at *
    generalize m.length = y at *
    go_enter Tryd.func19, Tryd.ntmps19
    go_wp2_with fail
    go_ret
    exact ⟨rfl, Below.refl _ _⟩
  have HL := hid hl
  have HM := hid hm
  have HLE := hid hlen
  obtain ⟨n, hnn⟩ : ∃ n, n = l.length := ⟨_, rfl⟩
  have HN := hid hnn
  have hn3 : n ≤ 300 := by rw [hnn]; exact hs.1
  rw [← hlen, ← hnn]
  obtain ⟨r, hr⟩ : ∃ r, r = decide (l = m) := ⟨_, rfl⟩
  have HR := hid hr
  rw [← hr]
  clear hl hm hs ht hnn hlen hr
  have i2 : ((n : Int) != (n : Int)) = false := by simp
  go_enter Tryd.func19, Tryd.ntmps19
  go_wp2_with fail
  go_loopw [5] (fun v8 wr => ∃ k : Nat, k ≤ n ∧ v8 = .int .i64 (k : Int) ∧ Hid (∀ j, j < k → l[j]? = m[j]?) ∧ Hid (Below w.heap.size w wr)) (fun v8 _ => n - (intOf v8).toNat)
  case atStart => exact ⟨0, Nat.zero_le _, rfl, hid (fun j h => absurd h (by omega)), hid (Below.refl _ _)⟩
  case round =>
    obtain ⟨k, hk, rfl, HJ, HB⟩ := hrel
    by_cases hlt : k < n
    · have hkl : k < l.length := by rw [← HN.out]; exact hlt
      have hkm : k < m.length := by rw [← HLE.out, ← HN.out]; exact hlt
      obtain ⟨g, o, rfl, hg, c0, c1, c2⟩ := fs_cell HL.out HB.out hkl
      obtain ⟨g', o', rfl, hg', d0, d1, d2⟩ := fs_cell HM.out HB.out hkm
      have hne := fun W => neq38 W (l.getD k default) (m.getD k default)
      unfold fl3 at hne
      have hq := neF_is (l.getD k default) (m.getD k default)
      have HE1 := hid (get_of default hkl)
      have HE2 := hid (get_of default hkm)
      have i1 : (k : Int) < (n : Int) := by omega
      have i0 : (0 : Int) ≤ (k : Int) := by omega
      have wk : IntKind.i64.wrap ((k : Int) + 1) = ((k + 1 : Nat) : Int) := by rw [IntKind.wrap_i64]; omega
      by_cases hxy : l.getD k default = m.getD k default
      · rw [hq, decide_eq_true hxy] at hne
        have HJ2 : Hid (∀ j, j < k + 1 → l[j]? = m[j]?) := hid (fun j hj => by
          by_cases h : j < k
          · exact HJ.out j h
          · obtain rfl : j = k := by omega
            rw [HE1.out, HE2.out, hxy])
        clear hq hxy
        generalize (l.getD k default).path = x0 at *
        generalize (l.getD k default).dir = x1 at *
        generalize (l.getD k default).data = x2 at *
        generalize (m.getD k default).path = y0 at *
        generalize (m.getD k default).dir = y1 at *
        generalize (m.getD k default).data = y2 at *
        go_wp2_with fail
        go_quiet (fail)
        go_wp2_with fail
        go_roundw
        case rel => exact ⟨k + 1, by omega, by rfl, HJ2, hid (below_draws HB.out _)⟩
        case measure => first | (simp [intOf]; done) | (simp [intOf]; omega)
      · rw [hq, decide_eq_false hxy] at hne
        have hrf : r = false := by
          rw [HR.out]
          refine decide_eq_false (fun h => hxy ?_)
          rw [h]
        subst hrf
        clear hq hxy
        generalize (l.getD k default).path = x0 at *
        generalize (l.getD k default).dir = x1 at *
        generalize (l.getD k default).data = x2 at *
        generalize (m.getD k default).path = y0 at *
        generalize (m.getD k default).dir = y1 at *
        generalize (m.getD k default).data = y2 at *
        go_wp2_with fail
        go_quiet (fail)
        go_wp2_with fail
        go_ret
        exact ⟨rfl, below_draws HB.out _⟩
    · obtain rfl : n = k := by omega
      have j1 : ¬ ((n : Int) < (n : Int)) := by omega
      have hrt : r = true := by
        rw [HR.out]
        refine decide_eq_true (List.ext_getElem? (fun j => ?_))
        by_cases h : j < n
        · exact HJ.out j h
        · rw [List.getElem?_eq_none (by rw [← HN.out]; omega), List.getElem?_eq_none (by rw [← HLE.out, ← HN.out]; omega)]
      subst hrt
      go_wp2_with fail
      go_ret
      exact ⟨rfl, HB.out⟩
/-- is a path that of a directory in the list? -/
def dirB (l : List Fl) (p : ByteArray) : Bool := l.any fun x => decide (x.path = p) && x.dir
set_option maxRecDepth 20000 in
set_option maxHeartbeats 4000000 in
theorem dir_any (l : List Fl) (A : Option Addr) (c : Nat) (p : ByteArray) (hn3 : l.length ≤ 100000) (w : World) (hl : Fs w A l) :
    Calls Tryd.prog 30 #[.slice A l.length c, .string p] w fun e w' => e = .returned (.bool (dirB l p)) ∧ Below w.heap.size w w' := by
  have HL := hid hl
  obtain ⟨n, hnn⟩ : ∃ n, n = l.length := ⟨_, rfl⟩
  have HN := hid hnn
  rw [← hnn] at hn3 ⊢
  obtain ⟨r, hr⟩ : ∃ r, r = dirB l p := ⟨_, rfl⟩
  have HR := hid hr
  rw [← hr]
  clear hl hnn hr
  go_enter Tryd.func30, Tryd.ntmps30
  go_wp2_with fail
  go_loopw [5] (fun v8 wr => ∃ k : Nat, k ≤ n ∧ v8 = .int .i64 (k : Int) ∧ Hid (dirB (l.take k) p = false) ∧ Hid (Below w.heap.size w wr)) (fun v8 _ => n - (intOf v8).toNat)
  case atStart => exact ⟨0, Nat.zero_le _, rfl, hid rfl, hid (Below.refl _ _)⟩
  case round =>
    obtain ⟨k, hk, rfl, HJ, HB⟩ := hrel
    by_cases hlt : k < n
    · have hkl : k < l.length := by rw [← HN.out]; exact hlt
      obtain ⟨g, o, rfl, hg, c0, c1, c2⟩ := fs_cell HL.out HB.out hkl
      have HT := hid (take_next l default k hkl)
      have HM := hid (getF_mem hkl)
      have i1 : (k : Int) < (n : Int) := by omega
      have i0 : (0 : Int) ≤ (k : Int) := by omega
      have wk : IntKind.i64.wrap ((k : Int) + 1) = ((k + 1 : Nat) : Int) := by rw [IntKind.wrap_i64]; omega
      have hne := toLb (s := (l.getD k default).path) (t := p)
      generalize hx : l.getD k default = x at *
      obtain ⟨x0, x1, x2⟩ := x
      dsimp only at c0 c1 c2 hne
      have step : x0 ≠ p ∨ x1 = false → Hid (dirB (l.take (k + 1)) p = false) := fun h => hid (by
        unfold dirB at *
        rw [HT.out, List.any_append, HJ.out]
        rcases h with h | h
        · simp [h]
        · simp [h])
      have fin : x0 = p → x1 = true → r = true := fun h1 h2 => by
        rw [HR.out]
        unfold dirB
        rw [List.any_eq_true]
        exact ⟨_, HM.out, by simp [h1, h2]⟩
      have ST := hid step
      have FI := hid fin
      clear step fin
      by_cases hp : x0 = p
      · rw [decide_eq_true hp] at hne
        cases x1 with
        | true =>
          obtain rfl := FI.out hp rfl
          clear hx hp
          go_wp2_with fail
          go_ret
          exact ⟨rfl, HB.out⟩
        | false =>
          have HJ2 := ST.out (.inr rfl)
          clear hx hp
          go_wp2_with fail
          go_roundw
          case rel => exact ⟨k + 1, by omega, by rfl, HJ2, HB⟩
          case measure => first | (simp [intOf]; done) | (simp [intOf]; omega)
      · rw [decide_eq_false hp] at hne
        have HJ2 := ST.out (.inl hp)
        clear hx hp
        go_wp2_with fail
        go_roundw
        case rel => exact ⟨k + 1, by omega, by rfl, HJ2, HB⟩
        case measure => first | (simp [intOf]; done) | (simp [intOf]; omega)
    · obtain rfl : n = k := by omega
      have j1 : ¬ ((n : Int) < (n : Int)) := by omega
      have hrf : r = false := by rw [HR.out]; have := HJ.out; rwa [HN.out, List.take_length] at this
      subst hrf
      go_wp2_with fail
      go_ret
      exact ⟨rfl, HB.out⟩
/-- is the list too much? -/
def longB (l : List Fl) : Bool := decide (300 < l.length) || l.any fun x => decide (400 < x.path.size) || decide (20000 < x.data.size)
theorem long_small {l : List Fl} (h : longB l = false) : Small l := by
  unfold longB at h
  rw [Bool.or_eq_false_iff, decide_eq_false_iff_not, List.any_eq_false] at h
  refine ⟨by omega, fun x hx => ?_⟩
  have := h.2 x hx
  rw [Bool.not_eq_true, Bool.or_eq_false_iff, decide_eq_false_iff_not, decide_eq_false_iff_not] at this
  omega
set_option maxRecDepth 20000 in
set_option maxHeartbeats 4000000 in
theorem long_any (l : List Fl) (A : Option Addr) (c : Nat) (hn3 : l.length ≤ 4611686018427387903) (hz : ∀ x ∈ l, x.path.size ≤ 4611686018427387903 ∧ x.data.size ≤ 4611686018427387903) (w : World) (hl : Fs w A l) :
    Calls Tryd.prog 6 #[.slice A l.length c] w fun e w' => e = .returned (.bool (longB l)) ∧ Below w.heap.size w w' := by
  have HL := hid hl
  have HZ := hid hz
  obtain ⟨n, hnn⟩ : ∃ n, n = l.length := ⟨_, rfl⟩
  have HN := hid hnn
  rw [← hnn] at hn3 ⊢
  obtain ⟨r, hr⟩ : ∃ r, r = longB l := ⟨_, rfl⟩
  have HR := hid hr
  rw [← hr]
  clear hl hnn hr hz
  by_cases h3 : 300 < n
  · have i3 : (300 : Int) < (n : Int) := by omega
    have hrt : r = true := by
      rw [HR.out]; unfold longB
      rw [decide_eq_true (by rw [← HN.out]; exact h3)]; rfl
    subst hrt
    go_enter Tryd.func6, Tryd.ntmps6
    go_wp2_with fail
    go_ret
    exact ⟨rfl, Below.refl _ _⟩
  have i3 : ¬ (300 : Int) < (n : Int) := by omega
  go_enter Tryd.func6, Tryd.ntmps6
  go_wp2_with fail
  go_loopw [3] (fun v8 wr => ∃ k : Nat, k ≤ n ∧ v8 = .int .i64 (k : Int) ∧ Hid (((l.take k).any fun x => decide (400 < x.path.size) || decide (20000 < x.data.size)) = false) ∧ Hid (Below w.heap.size w wr)) (fun v8 _ => n - (intOf v8).toNat)
  case atStart => exact ⟨0, Nat.zero_le _, rfl, hid rfl, hid (Below.refl _ _)⟩
  case round =>
    obtain ⟨k, hk, rfl, HJ, HB⟩ := hrel
    by_cases hlt : k < n
    · have hkl : k < l.length := by rw [← HN.out]; exact hlt
      obtain ⟨g, o, rfl, hg, c0, c1, c2⟩ := fs_cell HL.out HB.out hkl
      have HT := hid (take_next l default k hkl)
      have hmm := getF_mem hkl
      have HM := hid hmm
      obtain ⟨hz1, hz2⟩ := HZ.out _ hmm
      have i1 : (k : Int) < (n : Int) := by omega
      have i0 : (0 : Int) ≤ (k : Int) := by omega
      have wk : IntKind.i64.wrap ((k : Int) + 1) = ((k + 1 : Nat) : Int) := by rw [IntKind.wrap_i64]; omega
      generalize hx : l.getD k default = x at *
      obtain ⟨x0, x1, x2⟩ := x
      dsimp only at c0 c1 c2 hz1 hz2
      have ST := hid (fun (h1 : ¬ 400 < x0.size) (h2 : ¬ 20000 < x2.size) => (show ((l.take (k + 1)).any fun x => decide (400 < x.path.size) || decide (20000 < x.data.size)) = false from by
        rw [HT.out, List.any_append, HJ.out]
        simp [h1, h2]))
      have FI := hid (fun (h1 : 400 < x0.size ∨ 20000 < x2.size) => (show r = true from by
        rw [HR.out]
        unfold longB
        rw [Bool.or_eq_true]
        right
        rw [List.any_eq_true]
        refine ⟨_, HM.out, ?_⟩
        rcases h1 with h1 | h1
        · simp [h1]
        · simp [h1]))
      clear hmm hx
      by_cases h1 : 400 < x0.size
      · obtain rfl := FI.out (.inl h1)
        have i4 : (400 : Int) < (x0.size : Int) := by omega
        go_wp2_with fail
        go_ret
        exact ⟨rfl, HB.out⟩
      · have i4 : ¬ (400 : Int) < (x0.size : Int) := by omega
        by_cases h2 : 20000 < x2.size
        · obtain rfl := FI.out (.inr h2)
          have i5 : (20000 : Int) < (x2.size : Int) := by omega
          go_wp2_with fail
          go_ret
          exact ⟨rfl, HB.out⟩
        · have i5 : ¬ (20000 : Int) < (x2.size : Int) := by omega
          have HJ2 := hid (ST.out h1 h2)
          go_wp2_with fail
          go_roundw
          case rel => exact ⟨k + 1, by omega, by rfl, HJ2, HB⟩
          case measure => first | (simp [intOf]; done) | (simp [intOf]; omega)
    · obtain rfl : n = k := by omega
      have j1 : ¬ ((n : Int) < (n : Int)) := by omega
      have hrf : r = false := by
        rw [HR.out]; unfold longB
        have := HJ.out
        rw [HN.out, List.take_length] at this
        rw [this, decide_eq_false (by rw [← HN.out]; exact h3)]; rfl
      subst hrf
      go_wp2_with fail
      go_ret
      exact ⟨rfl, HB.out⟩
/-- may it hold what it has? -/
def holdB (x : Fl) : Bool := if x.dir = true then decide (x.data.size = 0) else decide (x.data.size ≤ 16384)
theorem toLe (s : ByteArray) : s.toList.isEmpty = decide (s.size = 0) := by
  by_cases h : s.size = 0
  · obtain rfl := (empty_iff s).2 h
    rw [ByteArray.toList_eq]; rfl
  · rw [toL_no h, decide_eq_false h]
set_option maxRecDepth 20000 in
set_option maxHeartbeats 4000000 in
theorem mayHold_any (x : Fl) (w : World) : Calls Tryd.prog 28 #[.agg (fl3 x).toArray] w fun e w' => e = .returned (.bool (holdB x)) ∧ Below w.heap.size w w' := by
  obtain ⟨x0, x1, x2⟩ := x
  show Calls Tryd.prog 28 #[.agg #[.string x0, .bool x1, .string x2]] w _
  have he := toLe x2
  have hb : Below w.heap.size w (w.alloc (.cells #[.string x0, .bool x1, .string x2] 38)) := (Below.refl _ _).alloc (Nat.le_refl _) _
  unfold holdB
  cases x1 with
  | true =>
    go_enter Tryd.func28, Tryd.ntmps28
    go_wp2_with fail
    go_ret
    exact ⟨by simp, hb⟩
  | false =>
    go_enter Tryd.func28, Tryd.ntmps28
    go_wp2_with fail
    go_ret
    exact ⟨by simp; omega, hb⟩
/-- what it is -/
def kindN (b : Bool) : Int := if b = true then 2 else 1
theorem kindOf_any (x : Fl) (w : World) : Calls Tryd.prog 29 #[.agg (fl3 x).toArray] w fun e w' => e = .returned (.int .u8 (kindN x.dir)) ∧ Below w.heap.size w w' := by
  obtain ⟨x0, x1, x2⟩ := x
  show Calls Tryd.prog 29 #[.agg #[.string x0, .bool x1, .string x2]] w fun e w' => e = .returned (.int .u8 (kindN x1)) ∧ Below w.heap.size w w'
  have hb : Below w.heap.size w (w.alloc (.cells #[.string x0, .bool x1, .string x2] 38)) := (Below.refl _ _).alloc (Nat.le_refl _) _
  cases x1 with
  | true =>
    go_enter Tryd.func29, Tryd.ntmps29
    go_wp2_with fail
    go_ret
    exact ⟨rfl, hb⟩
  | false =>
    go_enter Tryd.func29, Tryd.ntmps29
    go_wp2_with fail
    go_ret
    exact ⟨rfl, hb⟩
end Go.Proofs.YtnhekngmgjnodaaDoor
