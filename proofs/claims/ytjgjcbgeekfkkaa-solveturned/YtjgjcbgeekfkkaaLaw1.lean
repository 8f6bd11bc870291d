/- What the statements ask of a matrix: whether it is long; a copy of it; the same, and written over. -/
import Derived.Test.YtjgjcbgeekfkkaaOw
import Derived.Test.YtjgjcbgeekfkkaaProg1
namespace Go.Proofs.Ytjgjcbgeekfkkaa
open Go.RowKit
set_option maxRecDepth 20000 in
theorem own_any (v : Value) (m : List (List Nat)) (w : World) (h : Mat w v m) (hl : m.length ≤ 1000000) (hc : ∀ i, i < m.length → (m.getD i []).length ≤ 1000000) :
    Calls Try.prog 8 #[v] w fun e w' => ∃ r, e = .returned r ∧ OW w.heap.size r m.length (wd m) (at2 m) w' ∧ Below w.heap.size w w' := by
  have HX : Hid (∀ i x, x ∈ m.getD i [] → x < 256) := h.rows
  obtain ⟨a, cap, rfl, hml, hrows⟩ := h
  have HR := hid hrows
  have HC := hid hc
  have HW : Hid (∀ i, wd m i = (m.getD i []).length) := fun _ => rfl
  have HF : Hid (∀ i j, at2 m i j = (m.getD i []).getD j 0) := fun _ _ => rfl
  clear hrows hc
  generalize hn : m.length = n at *
  go_enter Try.func8, Try.ntmps8
  go_wp2_with fail
  go_loopw [3, 4] (fun vo vi wr => ∃ k : Nat, k ≤ n ∧ vi = .int .i64 (k : Int) ∧ Hid (OW w.heap.size vo k (wd m) (at2 m) wr) ∧ Below w.heap.size w wr) (fun _ vi _ => n - (intOf vi).toNat)
  case atStart => exact ⟨0, by omega, rfl, OW.nil _ _ _ _, Below.refl _ _⟩
  case round =>
    obtain ⟨k, hk, rfl, hO, hb⟩ := hrel
    by_cases hlt : k < n
    · obtain ⟨g, o, rfl, hg, hd⟩ := HR.out (by omega)
      obtain ⟨r, c, hr⟩ := hd k hlt
      have c1 := cell_below hb hg c
      have hr1 : Hid (∀ ob, Row8 (wr.alloc ob) r (m.getD k [])) := fun ob => (hr.below hb).below ((Below.refl _ _).alloc (Nat.le_refl _) _)
      have hlk := HC.out k hlt
      have hxk := hid (HX.out k)
      have hWk := hid (HW.out k)
      have hFk := hid (HF.out k)
      have c1' : ∀ ob, (wr.alloc ob).cell? ⟨g, o + k, none⟩ = some r := fun ob => cell_below ((Below.refl _ _).alloc (Nat.le_refl _) _) (Nat.lt_of_lt_of_le hg hb.size) c1
      have d0 : (k : Int) < (n : Int) := by omega
      have hsz := hb.size
      clear c hr hd HR c1
      generalize m.getD k [] = lk at *
      generalize hnl : lk.length = nl at *
      go_wp2_with (first
        | (refine wpList_appF rfl (.tmp 12) (.tmp 16) rfl wr.heap.size _ _ lk nl rfl (by exact Owns.fresh wr (Nat.le_refl _)) rfl (by exact hr1.out _) hnl hlk (by simp) ?_; intro ax cx w2 ho2 hb2; have hB2 : Below wr.heap.size wr w2 := ((Below.refl _ _).alloc (Nat.le_refl _) _).trans hb2; have hB3 : Below wr.heap.size wr (w2.alloc (.cells #[.slice ax nl cx] 23)) := hB2.alloc hB2.size _)
        | (refine wpList_push (w0 := wr) rfl (.tmp 11) (.tmp 18) rfl w.heap.size _ k (wd m) (at2 m) rfl hO.out hB3 hsz _ lk (by exact ho2.alloc _) hxk.out (by omega) (by rw [hnl]; exact hWk.out) (fun j _ => hFk.out j) (by omega) w2.heap.size 1 rfl (by exact Has.new _ _ _ _ rfl) ?_; intro v2 w3 hO3 hb3))
      exact ⟨⟨k + 1, by omega, rfl, hO3, (hb.trans (hB3.mono hsz)).trans hb3⟩, by simp [intOf]; omega⟩
    · obtain rfl : k = n := by omega
      go_wp2_with fail
      go_ret
      exact ⟨_, rfl, hO.out, hb⟩
theorem long_any (v : Value) (m : List (List Nat)) (w : World) (h : Mat w v m) :
    Calls Try.prog 6 #[v] w fun e w' => ∃ b, e = .returned (.bool b) ∧ (b = false → m.length ≤ 12 ∧ ∀ i, i < m.length → (m.getD i []).length ≤ 14) ∧ w' = w := by
  obtain ⟨a, cap, rfl, hml, hrows⟩ := h
  have HR := hid hrows
  clear hrows
  by_cases h0 : 12 < m.length
  · have d0 : decide ((12 : Int) < (m.length : Int)) = true := by simp; omega
    go_enter Try.func6, Try.ntmps6
    go_wp2_with fail
    go_ret
    exact ⟨true, rfl, (fun h => absurd h (by decide)), rfl⟩
  · have d0 : decide ((12 : Int) < (m.length : Int)) = false := by simp; omega
    generalize hn : m.length = n at *
    go_enter Try.func6, Try.ntmps6
    go_wp2_with fail
    go_loopw [3] (fun vi wr => wr = w ∧ ∃ k : Nat, k ≤ n ∧ vi = .int .i64 (k : Int) ∧ Hid (∀ j, j < k → (m.getD j []).length ≤ 14)) (fun vi _ => n - (intOf vi).toNat)
    case atStart => exact ⟨rfl, 0, by omega, rfl, fun j hj => absurd hj (by omega)⟩
    case round =>
      obtain ⟨rfl, k, hk, rfl, hj⟩ := hrel
      by_cases hlt : k < n
      · obtain ⟨g, o, rfl, hg, hd⟩ := HR.out (by omega)
        obtain ⟨r, c, hr⟩ := hd k hlt
        obtain ⟨a1, cap1, rfl, hl1, _, _⟩ := hr
        have d1 : (k : Int) < (n : Int) := by omega
        have hj' : Hid ((m.getD k []).length ≤ 14 → ∀ j, j < k + 1 → (m.getD j []).length ≤ 14) := fun h1 j h2 => by
          by_cases hjk : j < k
          · exact hj.out j hjk
          · obtain rfl : j = k := by omega
            exact h1
        clear hd HR
        generalize (m.getD k []).length = nk at *
        by_cases hnk : 14 < nk
        · have e0 : decide ((14 : Int) < (nk : Int)) = true := by simp; omega
          go_wp2_with fail
          go_ret
          exact ⟨true, rfl, (fun h => absurd h (by decide)), rfl⟩
        · have e0 : decide ((14 : Int) < (nk : Int)) = false := by simp; omega
          go_wp2_with fail
          exact ⟨⟨by simp, k + 1, by omega, rfl, hj'.out (by omega)⟩, by simp [intOf]; omega⟩
      · obtain rfl : k = n := by omega
        go_wp2_with fail
        go_ret
        exact ⟨false, rfl, fun _ => ⟨by omega, hj.out⟩, rfl⟩
theorem WrAt.of {base top T n : Nat} {w w' : World} (h : WrAt base top T n w) (hT : w'.heap[T]? = w.heap[T]?) (hk : ∀ b, base ≤ b → b < top → w'.heap[b]? = w.heap[b]?) : WrAt base top T n w' := by
  intro j hj
  obtain ⟨b, k, c, e1, e2, e3⟩ := h j hj
  refine ⟨b, k, c, by rw [cell_of hT]; exact e1, e2, fun hp => ?_⟩
  obtain ⟨g, r1, r2, r3, r4, r5⟩ := e3 hp
  refine ⟨g, r1, r2, r3, r4, fun i hi => ?_⟩
  rw [cell_of (hk g r2 r3), frozen_of (hk g r2 r3)]
  exact r5 i hi
theorem byte_set {w : World} {a b : Addr} {x : Nat} (hx : x < 256) (h : ∃ y : Nat, y < 256 ∧ w.cell? a = some (.int .u8 (y : Int))) : ∃ y : Nat, y < 256 ∧ (w.setCell b (.int .u8 (x : Int))).cell? a = some (.int .u8 (y : Int)) := by
  obtain ⟨y, hy, h⟩ := h
  by_cases hab : b = a
  · subst hab; exact ⟨x, hx, World.cell?_setCell_same _ _ _ h⟩
  · exact ⟨y, hy, by rw [World.cell?_setCell_other _ _ _ _ hab]; exact h⟩
theorem WrAt.set {base top T n : Nat} {w : World} (h : WrAt base top T n w) {g i x : Nat} (hg : g ≠ T) (hx : x < 256) : WrAt base top T n (w.setCell ⟨g, i, none⟩ (.int .u8 (x : Int))) := by
  intro j hj
  obtain ⟨b, k, c, h1, h2, h3⟩ := h j hj
  refine ⟨b, k, c, ?_, h2, fun hk => ?_⟩
  · rw [World.cell?_setCell_far _ _ _ _ hg]; exact h1
  · obtain ⟨g', rfl, hb, ht, hn, hc⟩ := h3 hk
    exact ⟨g', rfl, hb, ht, hn, fun i hi => ⟨byte_set hx (hc i hi).1, by rw [World.frozen?_setCell]; exact (hc i hi).2⟩⟩
theorem same_any (base top : Nat) (v vb : Value) (m mb : List (List Nat)) (w : World) (h : NewM base top w v m) (hb : Mat w vb mb) (htop : top ≤ w.heap.size) (hbase : base ≤ w.heap.size) :
    Calls Try.prog 17 #[v, vb] w fun e w' => e = .returned (.bool (decide (m = mb))) ∧ Keeps base top w w' := by
  have hsm := refSame_any v vb m mb w h.mat hb
  obtain ⟨a, cap, hv, hn6, hw⟩ : ∃ a cap, v = .slice a m.length cap ∧ m.length ≤ 1000000 ∧ (0 < m.length → ∃ T, a = some ⟨T, 0, none⟩ ∧ T < top ∧ WrAt base top T m.length w) := by
    obtain ⟨h1, h2⟩ := h
    rcases h2 with ⟨rfl, rfl⟩ | ⟨T, cap, Wd, f, h3, h4, h5⟩
    · exact ⟨none, 0, rfl, by simp, fun hp => absurd hp (by simp)⟩
    · exact ⟨_, cap, h3, h1, fun _ => ⟨T, rfl, h5.2.1, h5.wr⟩⟩
  subst hv
  generalize hdd : decide (m = mb) = db at *
  generalize hn : m.length = n at *
  clear h
  go_enter Try.func17, Try.ntmps17
  go_wp2_with fail
  refine hsm.mono ?_
  rintro e w1 ⟨rfl, b1⟩
  have HW1 : Hid (0 < n → ∃ T, a = some ⟨T, 0, none⟩ ∧ WrAt base top T n w1) := fun hp => by
    obtain ⟨T, e1, e2, e3⟩ := hw hp
    exact ⟨T, e1, e3.of (b1.block T (by omega)) (fun b _ h2 => b1.block b (by omega))⟩
  have K1 : Keeps base top w w1 := Keeps.ofBelow b1 hbase
  clear hw hsm b1
  go_wp2_with fail
  go_loopw [6] (fun vi wr => ∃ k : Nat, k ≤ n ∧ vi = .int .i64 (k : Int) ∧ Hid (0 < n → ∃ T, a = some ⟨T, 0, none⟩ ∧ WrAt base top T n wr) ∧ Keeps base top w wr) (fun vi _ => n - (intOf vi).toNat)
  case atStart => exact ⟨0, by omega, rfl, HW1, K1⟩
  case round =>
    obtain ⟨i, hi, rfl, hW, hK⟩ := hrel
    clear HW1 K1
    by_cases hlt : i < n
    · obtain ⟨T, rfl, hW'⟩ := hW.out (by omega)
      obtain ⟨b, k, c, h1, h2, _⟩ := hW' i hlt
      have HW := hid hW'
      clear hW hW'
      have d0 : (i : Int) < (n : Int) := by omega
      go_wp2_with fail
      go_loopw [7] (fun vj W => ∃ q : Nat, q ≤ k ∧ vj = .int .i64 (q : Int) ∧ Hid (WrAt base top T n W) ∧ W.cell? ⟨T, i, none⟩ = some (.slice b k c) ∧ Keeps base top w W) (fun vj _ => k - (intOf vj).toNat)
      case atStart => exact ⟨0, by omega, rfl, HW, h1, hK⟩
      case round =>
        obtain ⟨q, hq, rfl, hW, hT, hB⟩ := hrel
        clear h1 HW hK
        by_cases hqk : q < k
        · obtain ⟨b', k', c', e1, _, e3⟩ := hW.out i hlt
          rw [hT] at e1
          simp only [Option.some.injEq, Value.slice.injEq] at e1
          obtain ⟨rfl, rfl, rfl⟩ := e1
          obtain ⟨g, rfl, hbg, hgt, hgT, hc⟩ := e3 (by omega)
          obtain ⟨⟨x, hx, cx⟩, fx⟩ := hc q hqk
          have HS : Hid (WrAt base top T n (wr.setCell ⟨g, q, none⟩ (.int .u8 ((77 : Nat) : Int)))) := hW.out.set hgT (by decide)
          have hT' : (wr.setCell ⟨g, q, none⟩ (.int .u8 ((77 : Nat) : Int))).cell? ⟨T, i, none⟩ = some (.slice (some ⟨g, 0, none⟩) k c) := by rw [World.cell?_setCell_far _ _ _ _ hgT]; exact hT
          have hB' : Keeps base top w (wr.setCell ⟨g, q, none⟩ (.int .u8 ((77 : Nat) : Int))) := hB.set hbg hgt _
          rw [show (((77 : Nat)) : Int) = 77 from rfl] at HS hT' hB'
          clear e3 hc
          have d1 : (q : Int) < (k : Int) := by omega
          go_wp2_with fail
          exact ⟨⟨q + 1, by omega, rfl, HS, hT', hB'⟩, by simp [intOf]; omega⟩
        · obtain rfl : q = k := by omega
          go_wp2_with fail
          exact ⟨⟨i + 1, by omega, rfl, fun _ => ⟨T, rfl, hW.out⟩, hB⟩, by simp [intOf]; omega⟩
    · obtain rfl : i = n := by omega
      go_wp2_with fail
      go_ret
      exact ⟨rfl, hK⟩
end Go.Proofs.Ytjgjcbgeekfkkaa
