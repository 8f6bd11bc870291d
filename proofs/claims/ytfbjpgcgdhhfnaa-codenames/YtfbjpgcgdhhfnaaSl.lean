/- The library's Clone, Grow and Concat at rows; lists that are made. -/
import Derived.Test.YtfbjpgcgdhhfnaaMw
namespace Go.Proofs.Ytfbjpgcgdhhfnaa
open Go.RowKit
theorem makes_u8 (n : Nat) (hn : n ≤ 1000000) (w : World) : (Instr.makeSlice 31 (.int .i64 (n : Int)) (.int .i64 (n : Int))).run Try.prog w = .ok (.slice (some ⟨w.heap.size, 0, none⟩) n n) (w.alloc (.cells (U8s (List.replicate n 0)) 5)) := by
  obtain ⟨i, hi, h1, h2, h3⟩ := el5.info
  rw [run_make w 31 5 i (.int .u8 0) Try.underlying31 hi h1 .i64 .i64 (n : Int) (n : Int) (by omega) (Int.le_refl _) (by rw [h3]; omega) (by omega)]
  have e : madeCells (Value.int .u8 0).cells (n * 1) = U8s (List.replicate n 0) := by
    apply Array.toList_inj.1
    have hz : (Value.int .u8 0).cells = #[.int .u8 0] := rfl
    rw [hz, Nat.mul_one]
    apply List.ext_getElem
    · simp [madeCells, U8s]
    · intro k h1 h2
      simp [madeCells, U8s, Nat.mod_one]
  rw [h2, Int.toNat_natCast, e]
def noRows (n : Nat) : Array Value := (List.replicate n (Value.slice none 0 0)).toArray
theorem makes_rows (n : Nat) (hn : n ≤ 1000000) (w : World) : (Instr.makeSlice 46 (.int .i64 (n : Int)) (.int .i64 (n : Int))).run Try.prog w = .ok (.slice (some ⟨w.heap.size, 0, none⟩) n n) (w.alloc (.cells (noRows n) 31)) := by
  obtain ⟨i, hi, h1, h2, h3⟩ := el31.info
  rw [run_make w 46 31 i (.slice none 0 0) Try.underlying46 hi h1 .i64 .i64 (n : Int) (n : Int) (by omega) (Int.le_refl _) (by rw [h3]; omega) (by omega)]
  have e : madeCells (Value.slice none 0 0).cells (n * 1) = noRows n := by
    apply Array.toList_inj.1
    have hz : (Value.slice none 0 0).cells = #[.slice none 0 0] := rfl
    rw [hz, Nat.mul_one]
    apply List.ext_getElem
    · simp [madeCells, noRows]
    · intro k h1 h2
      simp [madeCells, noRows, Nat.mod_one]
  rw [h2, Int.toNat_natCast, e]
theorem MW.start {w : World} {n : Nat} (f : El.M) : MW w.heap.size (w.heap.size + 1) w.heap.size n (fun _ => 0) f (w.alloc (.cells (noRows n) 31)) := by
  have hh := Has.new w w.heap.size (noRows n) 31 rfl
  refine ⟨Nat.le_refl _, by omega, by simp, fun _ => 0, fun i hi => ⟨hh.frozen i, Nat.zero_le _, none, 0, ?_, ⟨Nat.le_refl _, by omega⟩, fun h => absurd h (Nat.lt_irrefl 0)⟩⟩
  rw [hh.cell]; simp [noRows, hi]
theorem Owns.cut {base : Nat} {v : Value} {l : List Nat} {w : World} (h : Owns 5 base v (U8s l).toList w) (hp : 0 < l.length) : ∃ g cap, v = .slice (some ⟨g, 0, none⟩) l.length cap ∧ l.length ≤ cap ∧ cap ≤ 9223372036854775807 ∧ Owns 5 base (.slice (some ⟨g, 0, none⟩) 0 cap) [] w := by
  obtain ⟨h1, h2⟩ := h
  rw [U8s_toList_length] at h2
  rcases h2 with ⟨rfl, h0⟩ | ⟨g, cap, cur, rfl, hg, hh, k1, k2, k3, k4⟩
  · omega
  · exact ⟨g, cap, rfl, k1, by unfold maxLen at k2; omega, rfl, .inr ⟨g, cap, cur, rfl, hg, hh, Nat.zero_le _, k2, k3, by simp⟩⟩
theorem clone_any (v : Value) (l : List Nat) (w : World) (h : Row8 w v l) (hp : 0 < l.length) (hl : l.length ≤ 1000000) :
    Calls Try.prog 58 #[v] w fun e w' => ∃ r, e = .returned r ∧ Owns 5 w.heap.size r (U8s l).toList w' ∧ Below w.heap.size w w' := by
  have hR : Hid (∀ o, Row8 (w.alloc o) v l) := fun o => h.below ((Below.refl _ _).alloc (Nat.le_refl _) _)
  obtain ⟨g, o, cap, rfl, _, hx, hg, hc⟩ := h.some hp
  have heq : ∀ W, (binOp .eql 31 (.slice (some ⟨g, o, none⟩) l.length cap) (.slice none 0 0)).run Try.prog W = .ok (.bool false) W := fun W => Lib.run_eql_slice_nil W 31 5 _ _ _ _ _ Try.underlying31
  clear hc h
  go_enter Try.func58, Try.ntmps58
  go_wp2_with (refine wpList_appR rfl (.tmp 5) (.tmp 6) rfl w.heap.size _ _ [] l rfl (by exact Owns.fresh w (Nat.le_refl _)) rfl (by exact hR.out _) (by simpa using hl) (by simp) ?_; intro v' w2 ho hgr hb)
  go_ret
  exact ⟨_, rfl, ho, ((Below.refl _ _).alloc (Nat.le_refl _) _).trans hb⟩
theorem grow_any (n : Nat) (hn : n ≤ 1000000) (w : World) :
    Calls Try.prog 60 #[.slice none 0 0, .int .i64 (n : Int)] w fun e w' => ∃ r, e = .returned r ∧ Owns 5 w.heap.size r [] w' ∧ Below w.heap.size w w' := by
  by_cases h0 : n = 0
  · subst h0
    go_enter Try.func60, Try.ntmps60
    go_wp2_with fail
    go_ret
    exact ⟨_, rfl, Owns.nil _ _ _, Below.refl _ _⟩
  · have d0 : decide ((n : Int) < 0) = false := by simp
    have d1 : decide ((0 : Int) < (n : Int)) = true := by simp; omega
    go_enter Try.func60, Try.ntmps60
    go_wp2_with (refine wpList_appZ rfl (.tmp 20) (.tmp 21) rfl w.heap.size _ [] n rfl (by exact Owns.nil _ _ _) rfl (by omega) (by simpa using hn) (Nat.le_refl _) ?_; intro v' w2 ho hb; obtain ⟨g, cap, hv, k1, k2, k3⟩ := ho.cut (by simp; omega); rw [hv])
    go_ret
    exact ⟨_, rfl, k3, hb⟩
def flat (m : List (List Nat)) : List Nat := m.flatten
theorem flat_take (m : List (List Nat)) (k : Nat) (hk : k < m.length) : flat (m.take k) ++ m.getD k [] = flat (m.take (k + 1)) := by
  rw [List.take_succ_eq_append_getElem hk]
  simp only [flat, List.flatten_append, List.flatten_cons, List.flatten_nil, List.append_nil, List.getD_eq_getElem?_getD, List.getElem?_eq_getElem hk, Option.getD_some]
theorem flat_le (m : List (List Nat)) (k : Nat) : (flat (m.take k)).length ≤ (flat m).length := by
  have : flat m = flat (m.take k) ++ flat (m.drop k) := by
    unfold flat; rw [← List.flatten_append, List.take_append_drop]
  rw [this]; simp
theorem concat_any (v : Value) (m : List (List Nat)) (w : World) (h : Mat w v m) (hl : (flat m).length ≤ 1000000) :
    Calls Try.prog 56 #[v] w fun e w' => ∃ r, e = .returned r ∧ Owns 5 w.heap.size r (U8s (flat m)).toList w' ∧ Below w.heap.size w w' := by
  obtain ⟨a, cap, rfl, hml, hrows⟩ := h
  have HS : Hid (∀ k, k < m.length → flat (m.take k) ++ m.getD k [] = flat (m.take (k + 1)) ∧ (flat (m.take (k + 1))).length ≤ 1000000) := fun k hk => ⟨flat_take m k hk, Nat.le_trans (flat_le m _) hl⟩
  have HE : Hid (flat (m.take m.length) = flat m) := by unfold Hid; rw [List.take_of_length_le (Nat.le_refl _)]
  have HL : Hid ((flat m).length ≤ 1000000) := hl
  have HR : Hid (0 < m.length → ∃ g o, a = some ⟨g, o, none⟩ ∧ g < w.heap.size ∧ ∀ j, j < m.length → ∃ r, w.cell? ⟨g, o + j, none⟩ = some r ∧ Row8 w r (m.getD j [])) := hrows
  clear hrows hl
  generalize hn : m.length = n at *
  go_enter Try.func56, Try.ntmps56
  go_wp2_with fail
  go_loopw [3, 11] (fun vs vi wr => wr = w ∧ ∃ k : Nat, k ≤ n ∧ vi = .int .i64 (k : Int) ∧ vs = .int .i64 (((flat (m.take k)).length : Nat) : Int)) (fun _ vi _ => n - (intOf vi).toNat)
  case atStart => exact ⟨rfl, 0, by omega, rfl, by simp [flat]⟩
  case round =>
    obtain ⟨rfl, k, hk, rfl, rfl⟩ := hrel
    by_cases hlt : k < n
    · obtain ⟨g, o, rfl, hg, hd⟩ := HR.out (by omega)
      obtain ⟨r, c, hr⟩ := hd k hlt
      obtain ⟨a1, cap1, rfl, hl1, _, _⟩ := hr
      obtain ⟨s1, s2⟩ := HS.out k hlt
      have e1 : (flat (m.take (k + 1))).length = (flat (m.take k)).length + (m.getD k []).length := by rw [← s1]; simp
      have d0 : (k : Int) < (n : Int) := by omega
      rw [e1] at s2
      clear s1 hd
      generalize (m.getD k []).length = lk at *
      generalize (flat (m.take k)).length = sk at *
      have d1 : decide ((sk : Int) + (lk : Int) < 0) = false := by simp; omega
      go_wp2_with fail
      exact ⟨⟨by simp, k + 1, by omega, rfl, by rw [e1]; simp⟩, by simp [intOf]; omega⟩
    · obtain rfl : k = n := by omega
      rw [HE.out]
      have hl := HL.out
      obtain ⟨wo, hwo⟩ : ∃ wo, wo = wr := ⟨_, rfl⟩
      subst hwo
      generalize hT : (flat m).length = tt at *
      go_wp2_with fail
      refine (grow_any tt hl wo).mono ?_
      rintro e w1 ⟨r, rfl, ho, b1⟩
      go_wp2_with fail
      generalize hB : wo.heap.size = BS at *
      go_loopw [6, 27] (fun vs vi W => Below BS wo W ∧ ∃ j : Nat, j ≤ k ∧ vi = .int .i64 (j : Int) ∧ Owns 5 BS vs (U8s (flat (m.take j))).toList W) (fun _ vi _ => k - (intOf vi).toNat)
      case atStart => exact ⟨b1, 0, by omega, rfl, ho⟩
      case round =>
        obtain ⟨hbW, j, hj, rfl, ho'⟩ := hrel
        have hsz : BS ≤ wr.heap.size := by rw [← hB]; exact hbW.size
        by_cases hjl : j < k
        · obtain ⟨g, o, rfl, hg, hd⟩ := HR.out (by omega)
          obtain ⟨r, c, hr⟩ := hd j hjl
          have c1 := cell_below hbW hg c
          have hr1 : Hid (Row8 wr r (m.getD j [])) := hr.below (by rw [hB]; exact hbW)
          have hs : Hid _ := HS.out j hjl
          have hs63 : (flat (m.take j)).length + (m.getD j []).length ≤ 1000000 := by
            have := hs.out.2
            rw [← hs.out.1, List.length_append] at this; exact this
          have d0 : (j : Int) < (k : Int) := by omega
          clear hr c hd HR
          go_wp2_with (refine wpList_appR rfl (.tmp 31) (.tmp 32) rfl BS _ _ _ (m.getD j []) rfl (by exact ho') rfl (by exact hr1.out) (by exact hs63) (by exact hsz) ?_; intro v' w2 ho2 hgr2 hb2)
          rw [hs.out.1] at ho2
          exact ⟨⟨hbW.trans hb2, j + 1, by omega, rfl, ho2⟩, by simp [intOf]; omega⟩
        · obtain rfl : j = k := by omega
          rw [HE.out] at ho'
          go_wp2_with fail
          go_ret
          exact ⟨_, rfl, by rw [hB]; exact ho', by rw [hB]; exact hbW⟩
end Go.Proofs.Ytfbjpgcgdhhfnaa
