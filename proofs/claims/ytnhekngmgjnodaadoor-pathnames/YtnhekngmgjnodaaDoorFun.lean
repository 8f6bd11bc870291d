/- What stands ahead of the last slash: the program's and the document's. -/
import Derived.Test.YtnhekngmgjnodaaDoorShelf
import Derived.Test.YtnhekngmgjnodaaDoorRd
import Derived.WalkKit
import Derived.WalkSpells
namespace Go.Proofs.YtnhekngmgjnodaaDoor
open Go.RowKit
open Pa
set_option linter.unusedVariables false
theorem bs_drop (s : ByteArray) (k : Nat) (h : k < s.size) : (bs s).drop k = s[k].toNat :: (bs s).drop (k + 1) := by
  rw [List.drop_eq_getElem_cons (by rw [bs_length]; exact h)]
  congr 1
  simp [bs]
  rfl
theorem bs_cut (s : ByteArray) (k : Nat) (h : k < s.size) : bs s = (bs s).take k ++ s[k].toNat :: (bs s).drop (k + 1) := by
  rw [← bs_drop s k h, List.take_append_drop]
theorem clone_any (s : ByteArray) (w : World) (hs : s.size ≤ 281474976710656) : Calls Tryd.prog 24 #[.string s] w fun e w' => e = .returned (.string s) ∧ Below w.heap.size w w' := by
  go_enter Tryd.func24, Tryd.ntmps24
  go_wp2_with fail
  refine (show Calls Tryd.prog 33 #[.string s] _ fun e w' => e = .returned (.string s) ∧ Below _ _ w' from Any.stringslite_Clone Tryd.laysM316 s w hs).mono ?_
  rintro e w' ⟨rfl, hb⟩
  go_wp2_with fail
  go_ret
  exact ⟨rfl, hb⟩
/-- where the last slash stands -/
def lastI (l : List Nat) : Int := match above l with
  | some u => (u.length : Int)
  | none => -1
theorem lastI_yes {l u s : List Nat} (h : l = u ++ 47 :: s) (hs : 47 ∉ s) : above l = some u ∧ lastI l = (u.length : Int) := by
  have := above_some.2 ⟨s, h, hs⟩
  exact ⟨this, by unfold lastI; rw [this]⟩
theorem lastI_no {l : List Nat} (h : 47 ∉ l) : above l = none ∧ lastI l = -1 := by
  have := above_none.2 h
  exact ⟨this, by unfold lastI; rw [this]⟩
set_option maxRecDepth 20000 in
set_option maxHeartbeats 4000000 in
theorem lastIx_any (s : ByteArray) (w : World) (hs : s.size ≤ 4611686018427387903) :
    Calls Tryd.prog 40 #[.string s, .int .u8 47] w fun e w' => e = .returned (.int .i64 (lastI (bs s))) ∧ w' = w := by
  go_enter Tryd.func40, Tryd.ntmps40
  go_wp2_with fail
  go_loopw [5] (fun v5 wr => ∃ (k : Nat) (z : Int), k ≤ s.size ∧ v5 = .int .i64 z ∧ z = (k : Int) - 1 ∧ Hid (47 ∉ (bs s).drop k) ∧ wr = w) (fun v5 _ => (intOf v5 + 1).toNat)
  case atStart => exact ⟨s.size, _, Nat.le_refl _, rfl, rfl, by rw [List.drop_eq_nil_of_le (by rw [bs_length]; exact Nat.le_refl _)]; simp [Hid], rfl⟩
  case round =>
    obtain ⟨k, z, hk, rfl, hz, HN, rfl⟩ := hrel
    by_cases h0 : k = 0
    · subst h0
      have i0 : ¬ (0 : Int) ≤ z := by omega
      have e0 := (lastI_no (by simpa using HN.out)).2
      go_wp2_with fail
      go_ret
      exact ⟨rfl, rfl⟩
    · obtain ⟨j, rfl⟩ : ∃ j, k = j + 1 := ⟨k - 1, by omega⟩
      obtain rfl : z = (j : Int) := by omega
      clear hz
      have i0 : (0 : Int) ≤ (j : Int) := by omega
      have i1 : (j : Int) < (s.size : Int) := by omega
      have hlt : j < s.size := by omega
      have wk : IntKind.i64.wrap ((j : Int) - 1) = (j : Int) - 1 := by rw [IntKind.wrap_i64]; omega
      by_cases hc : s[j].toNat = 47
      · have he := (lastI_yes (show bs s = (bs s).take j ++ 47 :: (bs s).drop (j + 1) by conv => lhs; rw [bs_cut s j hlt, hc]) HN.out).2
        rw [List.length_take, bs_length, Nat.min_eq_left (by omega)] at he
        have hci : ((s[j].toNat : Nat) : Int) = 47 := by omega
        clear HN
        go_wp2_with fail
        go_ret
        exact ⟨by rw [he]; rfl, rfl⟩
      · have HN2 : Hid (47 ∉ (bs s).drop j) := by
          show 47 ∉ (bs s).drop j
          rw [bs_drop s j hlt]
          intro hm
          rcases List.mem_cons.1 hm with h | h
          · exact hc h.symm
          · exact HN.out h
        have hci : ¬ ((s[j].toNat : Nat) : Int) = 47 := by omega
        clear HN hc
        go_wp2_with fail
        go_roundw
        case rel => exact ⟨j, _, by omega, rfl, by omega, HN2, trivial⟩
        case measure => first | (simp [intOf]; done) | (simp [intOf]; omega)
/-- what stands ahead of the last slash, and whether there is one -/
def abU (s : ByteArray) : ByteArray := match above (bs s) with
  | some u => ofBs u
  | none => ⟨#[]⟩
def abB (s : ByteArray) : Bool := (above (bs s)).isSome
theorem ab_cut {s : ByteArray} {u : List Nat} (h : above (bs s) = some u) : s.extract 0 u.length = ofBs u := by
  obtain ⟨r, h1, _⟩ := above_some.1 h
  have : bs (s.extract 0 u.length) = u := by rw [bs_extract, List.drop_zero, h1]; simp
  conv => rhs; rw [← this, ofBs_bs]
theorem ab_len {s : ByteArray} {u : List Nat} (h : above (bs s) = some u) : u.length < s.size := by
  obtain ⟨r, h1, _⟩ := above_some.1 h
  have := congrArg List.length h1
  rw [bs_length, List.length_append, List.length_cons] at this
  omega
set_option maxRecDepth 20000 in
set_option maxHeartbeats 4000000 in
theorem ahead_any (s : ByteArray) (w : World) (hs : s.size ≤ 4611686018427387903) :
    Calls Tryd.prog 25 #[.string s] w fun e w' => e = .returned (.tuple #[.string (abU s), .bool (abB s)]) ∧ w' = w := by
  have C0 := lastIx_any s w hs
  have C1 : Calls Tryd.prog 34 #[.string s, .int .u8 47] w fun e w' => e = .returned (.int .i64 (lastI (bs s))) ∧ w' = w := by
    go_enter Tryd.func34, Tryd.ntmps34
    go_wp2_with fail
    refine C0.mono ?_
    rintro e w' ⟨rfl, rfl⟩
    go_wp2_with fail
    go_ret
    exact ⟨rfl, rfl⟩
  clear C0
  unfold abU abB
  cases ha : above (bs s) with
  | none =>
    have e0 : lastI (bs s) = -1 := by unfold lastI; rw [ha]
    rw [e0] at C1
    clear e0 ha
    go_enter Tryd.func25, Tryd.ntmps25
    go_wp2_with fail
    refine C1.mono ?_
    rintro e w' ⟨rfl, rfl⟩
    go_wp2_with fail
    go_ret2
    exact ⟨rfl, rfl⟩
  | some u =>
    have e0 : lastI (bs s) = (u.length : Int) := by unfold lastI; rw [ha]
    have hl := ab_len ha
    have hc := ab_cut ha
    rw [e0] at C1
    have i0 : ¬ (u.length : Int) < 0 := by omega
    have i1 : (0 : Int) ≤ (u.length : Int) := by omega
    have i2 : (u.length : Int) ≤ (s.size : Int) := by omega
    have i3 : ((u.length : Nat) : Int).toNat = u.length := by omega
    clear e0 ha
    show Calls Tryd.prog 25 #[.string s] w fun e w' => e = .returned (.tuple #[.string (ofBs u), .bool true]) ∧ w' = w
    generalize u.length = k at *
    generalize ofBs u = x at *
    go_enter Tryd.func25, Tryd.ntmps25
    go_wp2_with fail
    refine C1.mono ?_
    rintro e w' ⟨rfl, rfl⟩
    go_wp2_with fail
    go_ret2
    exact ⟨by rw [← hc]; rfl, rfl⟩
theorem ab_size (s : ByteArray) : (abU s).size ≤ s.size := by
  unfold abU
  cases ha : above (bs s) with
  | none => exact Nat.zero_le _
  | some u =>
    have := ab_len ha
    show (ofBs u).size ≤ _
    rw [ofBs_size]; omega
set_option maxHeartbeats 4000000 in
theorem above_any (s : ByteArray) (w : World) (hs : s.size ≤ 281474976710656) :
    Calls Tryd.prog 12 #[.string s] w fun e w' => e = .returned (.tuple #[.string (abU s), .bool (abB s)]) ∧ Below w.heap.size w w' := by
  have C0 := ahead_any s w (by omega)
  have C1 := clone_any (abU s) w (by have := ab_size s; omega)
  generalize abU s = u at *
  generalize abB s = b at *
  go_enter Tryd.func12, Tryd.ntmps12
  go_wp2_with fail
  refine C0.mono ?_
  rintro e w' ⟨rfl, rfl⟩
  go_wp2_with fail
  refine C1.mono ?_
  rintro e w' ⟨rfl, hb⟩
  go_wp2_with fail
  go_ret2
  exact ⟨rfl, hb⟩
set_option maxRecDepth 20000 in
set_option maxHeartbeats 4000000 in
/-- the document's -/
theorem refAbove_any (s : ByteArray) (w : World) (hs : s.size ≤ 4611686018427387903) :
    Calls Tryd.prog 13 #[.string s] w fun e w' => e = .returned (.tuple #[.string (abU s), .bool (abB s)]) ∧ w' = w := by
  have HA := hid (rfl : abU s = abU s)
  have HU := hid (fun (k : Nat) (hk : k < s.size) (h1 : s[k].toNat = 47) (h2 : 47 ∉ (bs s).drop (k + 1)) => (show abU s = s.extract 0 k ∧ abB s = true from by
    have h3 := (lastI_yes (show bs s = (bs s).take k ++ 47 :: (bs s).drop (k + 1) by conv => lhs; rw [bs_cut s k hk, h1]) h2).1
    have h4 := ab_cut h3
    rw [List.length_take, bs_length, Nat.min_eq_left (by omega)] at h4
    unfold abU abB
    rw [h3]
    exact ⟨h4.symm, rfl⟩))
  have HV := hid (fun (h : 47 ∉ (bs s).drop 0) => (show abU s = ⟨#[]⟩ ∧ abB s = false from by
    have h3 := (lastI_no (l := bs s) (by simpa using h)).1
    unfold abU abB
    rw [h3]
    exact ⟨rfl, rfl⟩))
  generalize abU s = u at *
  generalize abB s = b at *
  go_enter Tryd.func13, Tryd.ntmps13
  go_wp2_with fail
  go_loopw [4] (fun v4 wr => ∃ (k : Nat) (z : Int), k ≤ s.size ∧ v4 = .int .i64 z ∧ z = (k : Int) - 1 ∧ Hid (47 ∉ (bs s).drop k) ∧ wr = w) (fun v4 _ => (intOf v4 + 1).toNat)
  case atStart => exact ⟨s.size, _, Nat.le_refl _, rfl, rfl, by rw [List.drop_eq_nil_of_le (by rw [bs_length]; exact Nat.le_refl _)]; simp [Hid], rfl⟩
  case round =>
    obtain ⟨k, z, hk, rfl, hz, HN, rfl⟩ := hrel
    by_cases h0 : k = 0
    · subst h0
      have i0 : ¬ (0 : Int) ≤ z := by omega
      obtain ⟨rfl, rfl⟩ := HV.out HN.out
      go_wp2_with fail
      go_ret2
      exact ⟨rfl, rfl⟩
    · obtain ⟨j, rfl⟩ : ∃ j, k = j + 1 := ⟨k - 1, by omega⟩
      obtain rfl : z = (j : Int) := by omega
      clear hz
      have i0 : (0 : Int) ≤ (j : Int) := by omega
      have i1 : (j : Int) < (s.size : Int) := by omega
      have i2 : (j : Int) ≤ (s.size : Int) := by omega
      have hlt : j < s.size := by omega
      have wk : IntKind.i64.wrap ((j : Int) - 1) = (j : Int) - 1 := by rw [IntKind.wrap_i64]; omega
      by_cases hc : s[j].toNat = 47
      · obtain ⟨rfl, rfl⟩ := HU.out j hlt hc HN.out
        have hci : ((s[j].toNat : Nat) : Int) = 47 := by omega
        clear HN
        go_wp2_with fail
        go_ret2
        exact ⟨rfl, rfl⟩
      · have HN2 : Hid (47 ∉ (bs s).drop j) := by
          show 47 ∉ (bs s).drop j
          rw [bs_drop s j hlt]
          intro hm
          rcases List.mem_cons.1 hm with h | h
          · exact hc h.symm
          · exact HN.out h
        have hci : ¬ ((s[j].toNat : Nat) : Int) = 47 := by omega
        clear HN hc
        go_wp2_with fail
        go_roundw
        case rel => exact ⟨j, _, by omega, rfl, by omega, HN2, trivial⟩
        case measure => first | (simp [intOf]; done) | (simp [intOf]; omega)
end Go.Proofs.YtnhekngmgjnodaaDoor
