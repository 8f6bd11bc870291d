/- Whether lists of files are the same: the program's, the library's and the document's. -/
import Derived.Test.YtnhekngmgjnodaaDoorFiles
namespace Go.Proofs.YtnhekngmgjnodaaDoor
open Go.RowKit
open Pa
set_option linter.unusedVariables false
/-- are they unlike? -/
def neF (x y : Fl) : Bool := !((x.path.toList == y.path.toList) && ((x.dir == y.dir) && (x.data.toList == y.data.toList)))
theorem toLb {s t : ByteArray} : (s.toList == t.toList) = decide (s = t) := by
  by_cases h : s = t
  · subst h; simp
  · rw [toL_ne h, decide_eq_false h]
instance : DecidableEq Fl := fun x y => by
  cases x; cases y
  rename_i a b c d e f
  by_cases h1 : a = d
  · by_cases h2 : b = e
    · by_cases h3 : c = f
      · exact isTrue (by rw [h1, h2, h3])
      · exact isFalse (fun h => by cases h; exact h3 rfl)
    · exact isFalse (fun h => by cases h; exact h2 rfl)
  · exact isFalse (fun h => by cases h; exact h1 rfl)
theorem neF_is (x y : Fl) : neF x y = !decide (x = y) := by
  unfold neF
  rw [toLb, toLb]
  obtain ⟨a, b, c⟩ := x
  obtain ⟨d, e, f⟩ := y
  by_cases h1 : a = d
  · by_cases h2 : b = e
    · by_cases h3 : c = f
      · subst h1 h2 h3; simp
      · simp [h3]
    · simp [h2]
  · simp [h1]
theorem neq38 (w : World) (x y : Fl) : (binOp .neq 38 (.agg (fl3 x).toArray) (.agg (fl3 y).toArray)).run Tryd.prog w = .ok (.bool (neF x y)) w := by
  have hS : Tryd.prog.underlying 38 = some (.struct (Tryd.prog.fieldsOf 38)) := by kernel_rfl
  have p : ∀ z : Fl, (part 9 (fl3 z).toArray 0).run Tryd.prog w = .ok (.string z.path) w ∧ (part 4 (fl3 z).toArray 1).run Tryd.prog w = .ok (.bool z.dir) w ∧ (part 9 (fl3 z).toArray 2).run Tryd.prog w = .ok (.string z.data) w := fun z => by
    unfold fl3; exact ⟨by kernel_rfl, by kernel_rfl, by kernel_rfl⟩
  obtain ⟨p0, p1, p2⟩ := p x
  obtain ⟨q0, q1, q2⟩ := p y
  have s0 := run_equalIn_string (P := Tryd.prog) w 9998 9 x.path y.path Tryd.underlying9
  have s2 := run_equalIn_string (P := Tryd.prog) w 9998 9 x.data y.data Tryd.underlying9
  have s1 := run_equalIn_bool (P := Tryd.prog) (w := w) 9998 4 x.dir y.dir Tryd.underlying4
  unfold neF
  rw [run_neq_struct, show (10000 : Nat) = 9999 + 1 from rfl, run_equalIn_agg w 9999 38 _ _ hS (by kernel_rfl)]
  simp only [Program.fieldsOf, Tryd.underlying38]
  simp only [Op.eqFields]
  cases e0 : (x.path.toList == y.path.toList) <;> cases e1 : (x.dir == y.dir) <;> cases e2 : (x.data.toList == y.data.toList) <;> simp [p0, p1, p2, q0, q1, q2, s0, s1, s2, e0, e1, e2, Result.andThen]
set_option maxRecDepth 20000 in
set_option maxHeartbeats 4000000 in
theorem equal_any (l m : List Fl) (A B : Option Addr) (c d : Nat) (hs : Small l) (ht : Small m) (w : World) (hl : Fs w A l) (hm : Fs w B m) :
    Calls Tryd.prog 31 #[.slice A l.length c, .slice B m.length d] w fun e w' => e = .returned (.bool (decide (l = m))) ∧ Below w.heap.size w w' := by
  by_cases hlen : l.length = m.length
  case neg =>
    have e1 : decide (l = m) = false := decide_eq_false (fun h => hlen (by rw [h]))
    rw [e1]
    have i1 : ((l.length : Int) != (m.length : Int)) = true := by simp; omega
    have i2 : ¬ (l.length : Int) = (m.length : Int) := by omega
    clear e1 hl hm
    generalize l.length = x at *
    generalize m.length = y at *
    go_enter Tryd.func31, Tryd.ntmps31
    go_wp2_with fail
    go_ret
    exact ⟨rfl, Below.refl _ _⟩
  have HL := hid hl
  have HM := hid hm
  have HLE := hid hlen
  obtain ⟨n, hnn⟩ : ∃ n, n = l.length := ⟨_, rfl⟩
  have HN := hid hnn
  have hn3 : n ≤ 300 := by rw [hnn]; exact hs.1
  rw [← hlen, ← hnn]
  obtain ⟨r, hr⟩ : ∃ r, r = decide (l = m) := ⟨_, rfl⟩
  have HR := hid hr
  rw [← hr]
  clear hl hm hs ht hnn hlen hr
  have i2 : ((n : Int) != (n : Int)) = false := by simp
  go_enter Tryd.func31, Tryd.ntmps31
  go_wp2_with fail
  go_loopw [5, 13] (fun _ v8 wr => ∃ k : Nat, k ≤ n ∧ v8 = .int .i64 (k : Int) ∧ Hid (∀ j, j < k → l[j]? = m[j]?) ∧ Hid (Below w.heap.size w wr)) (fun _ v8 _ => n - (intOf v8).toNat)
  case atStart => exact ⟨0, Nat.zero_le _, rfl, hid (fun j h => absurd h (by omega)), hid (Below.refl _ _)⟩
  case round =>
    obtain ⟨k, hk, rfl, HJ, HB⟩ := hrel
    by_cases hlt : k < n
    · have hkl : k < l.length := by rw [← HN.out]; exact hlt
      have hkm : k < m.length := by rw [← HLE.out, ← HN.out]; exact hlt
      obtain ⟨g, o, rfl, hg, c0, c1, c2⟩ := fs_cell HL.out HB.out hkl
      obtain ⟨g', o', rfl, hg', d0, d1, d2⟩ := fs_cell HM.out HB.out hkm
      have hne := fun W => neq38 W (l.getD k default) (m.getD k default)
      unfold fl3 at hne
      have hq := neF_is (l.getD k default) (m.getD k default)
      have HE1 := hid (get_of default hkl)
      have HE2 := hid (get_of default hkm)
      have i1 : (k : Int) < (n : Int) := by omega
      have i0 : (0 : Int) ≤ (k : Int) := by omega
      have wk : IntKind.i64.wrap ((k : Int) + 1) = ((k + 1 : Nat) : Int) := by rw [IntKind.wrap_i64]; omega
      by_cases hxy : l.getD k default = m.getD k default
      · rw [hq, decide_eq_true hxy] at hne
        have HJ2 : Hid (∀ j, j < k + 1 → l[j]? = m[j]?) := hid (fun j hj => by
          by_cases h : j < k
          · exact HJ.out j h
          · obtain rfl : j = k := by omega
            rw [HE1.out, HE2.out, hxy])
        clear hq hxy
        generalize (l.getD k default).path = x0 at *
        generalize (l.getD k default).dir = x1 at *
        generalize (l.getD k default).data = x2 at *
        generalize (m.getD k default).path = y0 at *
        generalize (m.getD k default).dir = y1 at *
        generalize (m.getD k default).data = y2 at *
        go_wp2_with fail
        go_quiet (fail)
        go_wp2_with fail
        go_roundw
        case rel => exact ⟨k + 1, by omega, by rfl, HJ2, hid (below_draws HB.out _)⟩
        case measure => first | (simp [intOf]; done) | (simp [intOf]; omega)
      · rw [hq, decide_eq_false hxy] at hne
        have hrf : r = false := by
          rw [HR.out]
          refine decide_eq_false (fun h => hxy ?_)
          rw [h]
        subst hrf
        clear hq hxy
        generalize (l.getD k default).path = x0 at *
        generalize (l.getD k default).dir = x1 at *
        generalize (l.getD k default).data = x2 at *
        generalize (m.getD k default).path = y0 at *
        generalize (m.getD k default).dir = y1 at *
        generalize (m.getD k default).data = y2 at *
        go_wp2_with fail
        go_quiet (fail)
        go_wp2_with fail
        go_ret
        exact ⟨rfl, below_draws HB.out _⟩
    · obtain rfl : n = k := by omega
      have j1 : ¬ ((n : Int) < (n : Int)) := by omega
      have hrt : r = true := by
        rw [HR.out]
        refine decide_eq_true (List.ext_getElem? (fun j => ?_))
        by_cases h : j < n
        · exact HJ.out j h
        · rw [List.getElem?_eq_none (by rw [← HN.out]; omega), List.getElem?_eq_none (by rw [← HLE.out, ← HN.out]; omega)]
      subst hrt
      go_wp2_with fail
      go_ret
      exact ⟨rfl, HB.out⟩
theorem same_any (l m : List Fl) (A B : Option Addr) (c d : Nat) (hs : Small l) (ht : Small m) (w : World) (hl : Fs w A l) (hm : Fs w B m) :
    Calls Tryd.prog 18 #[.slice A l.length c, .slice B m.length d] w fun e w' => e = .returned (.bool (decide (l = m))) ∧ Below w.heap.size w w' := by
  have C1 := equal_any l m A B c d hs ht w hl hm
  generalize decide (l = m) = b at *
  clear hs ht hl hm
  generalize l.length = x at *
  generalize m.length = y at *
  go_enter Tryd.func18, Tryd.ntmps18
  go_wp2_with fail
  refine C1.mono ?_
  rintro e w1 ⟨rfl, hb⟩
  go_wp2_with fail
  go_ret
  exact ⟨rfl, hb⟩
end Go.Proofs.YtnhekngmgjnodaaDoor
