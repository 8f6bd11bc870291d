/- The contracts of mayStep and of the document's step. -/
import Derived.Test.YtnhekngmgjnodaaDoorFun
import Derived.Test.YtnhekngmgjnodaaDoorOps
import Derived.Lib.ConvBytes
namespace Go.Proofs.YtnhekngmgjnodaaDoor
open Go.RowKit
open Pa
set_option linter.unusedVariables false
/-- block g begins by these bytes, and they may be written -/
def BRow (W : World) (g : Nat) (l : List Nat) : Prop := ∃ cs t fr, W.heap[g]? = some (.cells cs t fr) ∧ (∀ j, j < l.length → cs[j]? = some (.int .u8 ((l.getD j 0 : Nat) : Int))) ∧ l.length ≤ fr.1
theorem BRow.lt {W : World} {g : Nat} {l : List Nat} (h : BRow W g l) : g < W.heap.size := by
  obtain ⟨cs, t, fr, h, _⟩ := h; exact (Array.getElem?_eq_some_iff.1 h).1
theorem BRow.cell {W : World} {g : Nat} {l : List Nat} (h : BRow W g l) (j : Nat) (hj : j < l.length) : W.cell? ⟨g, j, none⟩ = some (.int .u8 ((l.getD j 0 : Nat) : Int)) := by
  obtain ⟨cs, t, fr, h, hc, _⟩ := h
  simp [World.cell?, h, hc j hj]
theorem BRow.frozen {W : World} {g : Nat} {l : List Nat} (h : BRow W g l) (j : Nat) (hj : j < l.length) : W.frozen? ⟨g, j, none⟩ = false := by
  obtain ⟨cs, t, fr, h, _, hf⟩ := h
  simp [World.frozen?, h]
  omega
theorem BRow.below {W W' : World} {g : Nat} {l : List Nat} (h : BRow W g l) (hb : Below W.heap.size W W') : BRow W' g l := by
  have hl := h.lt
  obtain ⟨cs, t, fr, h, r⟩ := h
  exact ⟨cs, t, fr, by rw [hb.block g hl]; exact h, r⟩
theorem BRow.alloc {W : World} {g : Nat} {l : List Nat} (h : BRow W g l) (o : Obj) : BRow (W.alloc o) g l := h.below ((Below.refl _ _).alloc (Nat.le_refl _) o)
theorem brow_new (w : World) (s : ByteArray) : BRow (Lib.bytesWorld w 5 s) w.heap.size (bs s) := by
  refine ⟨_, _, _, Lib.bytesWorld_at_new w 5 s, fun j hj => ?_, ?_⟩
  · rw [bs_length] at hj
    have h := Lib.bytesWorld_cell w 5 s j hj
    rw [World.cell?, Lib.bytesWorld_at_new] at h
    have h' : (Lib.bytesCells w 5 s)[j]? = some (Value.int .u8 ((s.data.toList.getD j 0).toNat : Int)) := h
    rw [h']
    congr 3
    simp [bs, List.getD_eq_getElem?_getD, hj]
  · have hge := grownCap_ge w s.size 0 5
    rw [bs_length]
    simp [Lib.bytesCells]
theorem bytes_told (w : World) (s : ByteArray) : ∃ W cap, (convert 9 36 (.string s)).run Tryd.prog w = .ok (.slice (some ⟨w.heap.size, 0, none⟩) s.size cap) W ∧ BRow W w.heap.size (bs s) ∧ Below w.heap.size w W ∧ s.size ≤ cap :=
  ⟨_, _, Lib.run_convert_string_bytes (P := Tryd.prog) w 9 36 5 s Tryd.underlying9 Tryd.underlying36 Tryd.underlying5, brow_new w s, ⟨rfl, rfl, rfl, by rw [Lib.bytesWorld_size]; omega, fun k hk => Lib.bytesWorld_at_old w 5 s k hk⟩, by have := grownCap_ge w s.size 0 5; omega⟩
def oddN (x : Nat) : Bool := decide (x < 33) || decide (126 < x)
theorem odd_any (x : Nat) (w : World) : Calls Tryd.prog 35 #[.int .u8 (x : Int)] w fun e w' => e = .returned (.bool (oddN x)) ∧ w' = w := by
  unfold oddN
  by_cases h1 : x < 33
  · have i1 : (x : Int) < 33 := by omega
    rw [decide_eq_true h1, Bool.true_or]
    go_enter Tryd.func35, Tryd.ntmps35
    go_wp2_with fail
    go_ret
    exact ⟨rfl, rfl⟩
  · have i1 : ¬ (x : Int) < 33 := by omega
    rw [decide_eq_false h1, Bool.false_or]
    by_cases h2 : 126 < x
    · have i2 : (126 : Int) < (x : Int) := by omega
      rw [decide_eq_true h2]
      go_enter Tryd.func35, Tryd.ntmps35
      go_wp2_with fail
      go_ret
      exact ⟨rfl, rfl⟩
    · have i2 : ¬ (126 : Int) < (x : Int) := by omega
      rw [decide_eq_false h2]
      go_enter Tryd.func35, Tryd.ntmps35
      go_wp2_with fail
      go_ret
      exact ⟨rfl, rfl⟩
set_option maxRecDepth 20000 in
set_option maxHeartbeats 4000000 in
theorem indexFunc_any (l : List Nat) (g cap : Nat) (hn : l.length ≤ 100000) (w : World) (hb : BRow w g l) :
    Calls Tryd.prog 41 #[.slice (some ⟨g, 0, none⟩) l.length cap, .func (.func 35) #[] #[]] w fun e w' => ∃ z : Int, e = .returned (.int .i64 z) ∧ decide (0 ≤ z) = l.any oddN ∧ w' = w := by
  have HB := hid hb
  obtain ⟨n, hnn⟩ : ∃ n, n = l.length := ⟨_, rfl⟩
  have HN := hid hnn
  rw [← hnn] at hn ⊢
  clear hnn hb
  go_enter Tryd.func41, Tryd.ntmps41
  go_wp2_with fail
  go_loopw [5, 8] (fun _ v8 wr => ∃ k : Nat, k ≤ n ∧ v8 = .int .i64 (k : Int) ∧ Hid ((l.take k).any oddN = false) ∧ wr = w) (fun _ v8 _ => n - (intOf v8).toNat)
  case atStart => exact ⟨0, Nat.zero_le _, rfl, rfl, rfl⟩
  case round =>
    obtain ⟨k, hk, rfl, HF, rfl⟩ := hrel
    by_cases hlt : k < n
    · have i1 : (k : Int) < (n : Int) := by omega
      have i0 : (0 : Int) ≤ (k : Int) := by omega
      have wk : IntKind.i64.wrap ((k : Int) + 1) = ((k + 1 : Nat) : Int) := by rw [IntKind.wrap_i64]; omega
      have hkl : k < l.length := by rw [← HN.out]; exact hlt
      have hc := HB.out.cell k hkl
      have HT := hid (take_next l 0 k hkl)
      generalize l.getD k 0 = x at *
      have C1 := fun W => odd_any x W
      cases ho : oddN x with
      | true =>
        have HA : Hid (l.any oddN = true) := hid (by
          rw [← List.take_append_drop (k + 1) l, HT.out, List.any_append, List.any_append]
          simp [ho])
        rw [ho] at C1
        clear ho HT HF
        go_wp2_with fail
        refine (C1 _).mono ?_
        rintro e w1 ⟨rfl, rfl⟩
        go_wp2_with fail
        go_ret
        exact ⟨_, rfl, by rw [HA.out]; simp, rfl⟩
      | false =>
        have HF2 : Hid ((l.take (k + 1)).any oddN = false) := hid (by rw [HT.out, List.any_append, HF.out]; simp [ho])
        rw [ho] at C1
        clear ho HT HF
        go_wp2_with fail
        refine (C1 _).mono ?_
        rintro e w1 ⟨rfl, rfl⟩
        go_wp2_with fail
        go_roundw
        case rel => exact ⟨k + 1, by omega, rfl, HF2, trivial⟩
        case measure => first | (simp [intOf]; done) | (simp [intOf]; omega)
    · obtain rfl : n = k := by omega
      have j1 : ¬ ((n : Int) < (n : Int)) := by omega
      have HA : Hid (l.any oddN = false) := hid (by have := HF.out; rwa [HN.out, List.take_length] at this)
      clear HF
      go_wp2_with fail
      go_ret
      exact ⟨_, rfl, by rw [HA.out]; rfl, rfl⟩
theorem contains_any (l : List Nat) (g cap : Nat) (hn : l.length ≤ 100000) (w : World) (hb : BRow w g l) :
    Calls Tryd.prog 36 #[.slice (some ⟨g, 0, none⟩) l.length cap, .func (.func 35) #[] #[]] w fun e w' => e = .returned (.bool (l.any oddN)) ∧ w' = w := by
  have C1 := indexFunc_any l g cap hn w hb
  generalize l.any oddN = b at *
  generalize l.length = n at *
  clear hb hn
  go_enter Tryd.func36, Tryd.ntmps36
  go_wp2_with fail
  refine C1.mono ?_
  rintro e w1 ⟨z, rfl, hz, rfl⟩
  subst hz
  by_cases h0 : (0 : Int) ≤ z
  · go_wp2_with fail
    go_ret
    exact ⟨by simp [h0], rfl⟩
  · go_wp2_with fail
    go_ret
    exact ⟨by simp, rfl⟩
def dot1 : ByteArray := ⟨#[46]⟩
def dot2 : ByteArray := ⟨#[46, 46]⟩
theorem dot1_l : dot1.toList = [46] := by rw [ByteArray.toList_eq]; rfl
theorem dot2_l : dot2.toList = [46, 46] := by rw [ByteArray.toList_eq]; rfl
theorem toL_is {s d : ByteArray} : s.toList = d.toList ↔ s = d := by
  constructor
  · intro e
    rw [ByteArray.toList_eq, ByteArray.toList_eq] at e
    exact ByteArray.ext (Array.toList_inj.1 e)
  · rintro rfl; rfl
theorem toL_ne {s d : ByteArray} (h : s ≠ d) : (s.toList == d.toList) = false := by
  rw [beq_eq_false_iff_ne]
  exact fun e => h (toL_is.1 e)
theorem bs_dot1 {s : ByteArray} : bs s = [46] ↔ s = dot1 := by
  constructor
  · intro h; exact bs_inj (h.trans rfl)
  · rintro rfl; rfl
theorem bs_dot2 {s : ByteArray} : bs s = [46, 46] ↔ s = dot2 := by
  constructor
  · intro h; exact bs_inj (h.trans rfl)
  · rintro rfl; rfl
theorem all_odd (l : List Nat) : (l.all fun x => decide (33 ≤ x ∧ x ≤ 126)) = !(l.any oddN) := by
  induction l with
  | nil => rfl
  | cons x r ih =>
    rw [List.all_cons, List.any_cons, ih]
    unfold oddN
    by_cases h1 : x < 33
    · simp [h1, show ¬ (33 ≤ x ∧ x ≤ 126) by omega]
    · by_cases h2 : 126 < x
      · simp [h2, show ¬ (33 ≤ x ∧ x ≤ 126) by omega]
      · simp [h1, h2, show 33 ≤ x ∧ x ≤ 126 by omega]
theorem okS_long {s : ByteArray} (h : ¬ (1 ≤ s.size ∧ s.size ≤ 32)) : okS (bs s) = false := by
  unfold okS; rw [bs_length, decide_eq_false h]; rfl
theorem okS_dot1 : okS (bs dot1) = false := by decide +kernel
theorem okS_dot2 : okS (bs dot2) = false := by decide +kernel
theorem okS_rest {s : ByteArray} (h : 1 ≤ s.size ∧ s.size ≤ 32) (h1 : s ≠ dot1) (h2 : s ≠ dot2) : okS (bs s) = !((bs s).any oddN) := by
  unfold okS
  rw [bs_length, decide_eq_true h, all_odd, decide_eq_true ⟨fun e => h1 (bs_dot1.1 e), fun e => h2 (bs_dot2.1 e)⟩]
  rfl
set_option maxRecDepth 20000 in
set_option maxHeartbeats 4000000 in
theorem mayStep_any (s : ByteArray) (hs : s.size ≤ 100000) (w : World) : Calls Tryd.prog 26 #[.string s] w fun e w' => e = .returned (.bool (okS (bs s))) ∧ Below w.heap.size w w' := by
  by_cases h1 : 1 ≤ s.size
  case neg =>
    rw [okS_long (by omega)]
    have i1 : ¬ (1 : Int) ≤ (s.size : Int) := by omega
    go_enter Tryd.func26, Tryd.ntmps26
    go_wp2_with fail
    go_ret
    exact ⟨rfl, Below.refl _ _⟩
  have i1 : (1 : Int) ≤ (s.size : Int) := by omega
  by_cases h2 : s.size ≤ 32
  case neg =>
    rw [okS_long (by omega)]
    have i2 : ¬ (s.size : Int) ≤ 32 := by omega
    go_enter Tryd.func26, Tryd.ntmps26
    go_wp2_with fail
    go_ret
    exact ⟨rfl, Below.refl _ _⟩
  have i2 : (s.size : Int) ≤ 32 := by omega
  by_cases h3 : s = dot1
  · subst h3
    rw [okS_dot1]
    unfold dot1
    go_enter Tryd.func26, Tryd.ntmps26
    go_wp2_with fail
    go_ret
    exact ⟨rfl, Below.refl _ _⟩
  by_cases h4 : s = dot2
  · subst h4
    rw [okS_dot2]
    unfold dot2
    go_enter Tryd.func26, Tryd.ntmps26
    go_wp2_with fail
    go_ret
    exact ⟨rfl, Below.refl _ _⟩
  rw [okS_rest ⟨h1, h2⟩ h3 h4]
  have e1 : (s.toList == [46]) = false := by have := toL_ne h3; rwa [dot1_l] at this
  have e2 : (s.toList == [46, 46]) = false := by have := toL_ne h4; rwa [dot2_l] at this
  obtain ⟨W, cap, hc, hbr, hbl, hcap⟩ := bytes_told w s
  have C1 := contains_any (bs s) w.heap.size cap (by rw [bs_length]; exact hs) W hbr
  rw [bs_length] at C1
  generalize (bs s).any oddN = b at *
  have HB := hid hbl
  clear hbr hbl hcap h3 h4
  go_enter Tryd.func26, Tryd.ntmps26
  go_wp2_with fail
  refine C1.mono ?_
  rintro e w1 ⟨rfl, rfl⟩
  go_wp2_with fail
  go_ret
  exact ⟨rfl, HB.out⟩
set_option maxRecDepth 20000 in
set_option maxHeartbeats 4000000 in
/-- the document's -/
theorem refStep_any (s : ByteArray) (hs : s.size ≤ 100000) (w : World) : Calls Tryd.prog 27 #[.string s] w fun e w' => e = .returned (.bool (okS (bs s))) ∧ w' = w := by
  by_cases h1 : s.size = 0
  · obtain rfl := (empty_iff s).2 h1
    rw [okS_long (by omega)]
    go_enter Tryd.func27, Tryd.ntmps27
    go_wp2_with fail
    go_ret
    exact ⟨rfl, rfl⟩
  have e0 := toL_no h1
  by_cases h2 : s.size ≤ 32
  case neg =>
    rw [okS_long (by omega)]
    have i2 : (32 : Int) < (s.size : Int) := by omega
    go_enter Tryd.func27, Tryd.ntmps27
    go_wp2_with fail
    go_ret
    exact ⟨rfl, rfl⟩
  have i2 : ¬ (32 : Int) < (s.size : Int) := by omega
  by_cases h3 : s = dot1
  · subst h3
    rw [okS_dot1]
    unfold dot1
    go_enter Tryd.func27, Tryd.ntmps27
    go_wp2_with fail
    go_ret
    exact ⟨rfl, rfl⟩
  by_cases h4 : s = dot2
  · subst h4
    rw [okS_dot2]
    unfold dot2
    go_enter Tryd.func27, Tryd.ntmps27
    go_wp2_with fail
    go_ret
    exact ⟨rfl, rfl⟩
  rw [okS_rest ⟨by omega, h2⟩ h3 h4]
  have e1 : (s.toList == [46]) = false := by have := toL_ne h3; rwa [dot1_l] at this
  have e2 : (s.toList == [46, 46]) = false := by have := toL_ne h4; rwa [dot2_l] at this
  clear h3 h4
  go_enter Tryd.func27, Tryd.ntmps27
  go_wp2_with fail
  go_loopw [3] (fun v3 wr => ∃ k : Nat, k ≤ s.size ∧ v3 = .int .i64 (k : Int) ∧ Hid (((bs s).take k).any oddN = false) ∧ wr = w) (fun v3 _ => s.size - (intOf v3).toNat)
  case atStart => exact ⟨0, Nat.zero_le _, rfl, rfl, rfl⟩
  case round =>
    obtain ⟨k, hk, rfl, HF, rfl⟩ := hrel
    by_cases hlt : k < s.size
    · have x0 : s[k].toNat < 256 := s[k].toNat_lt
      have i1 : (k : Int) < (s.size : Int) := by omega
      have i0 : (0 : Int) ≤ (k : Int) := by omega
      have wk : IntKind.i64.wrap ((k : Int) + 1) = ((k + 1 : Nat) : Int) := by rw [IntKind.wrap_i64]; omega
      have HT := hid (take_next (bs s) 0 k (by rw [bs_length]; exact hlt))
      rw [bs_get s k hlt] at HT
      by_cases h5 : s[k].toNat < 33
      · have HA : Hid ((bs s).any oddN = true) := hid (by
          rw [← List.take_append_drop (k + 1) (bs s), HT.out, List.any_append, List.any_append]
          simp [oddN, h5])
        have i5 : ((s[k].toNat : Nat) : Int) < 33 := by omega
        clear HT HF h5
        go_wp2_with fail
        go_ret
        exact ⟨by rw [HA.out]; rfl, rfl⟩
      · have i5 : ¬ ((s[k].toNat : Nat) : Int) < 33 := by omega
        by_cases h6 : 126 < s[k].toNat
        · have HA : Hid ((bs s).any oddN = true) := hid (by
            rw [← List.take_append_drop (k + 1) (bs s), HT.out, List.any_append, List.any_append]
            simp [oddN, h6])
          have i6 : (126 : Int) < ((s[k].toNat : Nat) : Int) := by omega
          clear HT HF h5 h6
          go_wp2_with fail
          go_ret
          exact ⟨by rw [HA.out]; rfl, rfl⟩
        · have i6 : ¬ (126 : Int) < ((s[k].toNat : Nat) : Int) := by omega
          have HF2 : Hid (((bs s).take (k + 1)).any oddN = false) := hid (by rw [HT.out, List.any_append, HF.out]; simp [oddN, h5, h6])
          clear HT HF h5 h6
          go_wp2_with fail
          go_roundw
          case rel => exact ⟨k + 1, by omega, rfl, HF2, trivial⟩
          case measure => first | (simp [intOf]; done) | (simp [intOf]; omega)
    · obtain rfl : s.size = k := by omega
      have j1 : ¬ ((s.size : Int) < (s.size : Int)) := by omega
      have HA : (bs s).any oddN = false := by have := HF.out; rwa [← bs_length, List.take_length] at this
      clear HF
      go_wp2_with fail
      go_ret
      exact ⟨rfl, rfl⟩
end Go.Proofs.YtnhekngmgjnodaaDoor
