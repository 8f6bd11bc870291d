/- What is written over: a list of rows that the call made itself, whatever stands in it. What is too large. -/
import Derived.Test.YtnihohcdamhidaaEq
import Derived.Deep.RegionWith
namespace Go.Proofs.Ytnihohcdamhidaa
open Go.RowKit
/-- the n rows that are told from T, o on lie from block base on, below top, apart from the list of them, and may be written -/
def WrAt (base top T o n : Nat) (w : World) : Prop := ∀ j, j < n → ∃ b k c, w.cell? ⟨T, o + j, none⟩ = some (.slice b k c) ∧ k ≤ 9223372036854775807 ∧ (0 < k → ∃ g p, b = some ⟨g, p, none⟩ ∧ base ≤ g ∧ g < top ∧ g ≠ T ∧ ∀ i, i < k → (∃ x : Nat, x < 256 ∧ w.cell? ⟨g, p + i, none⟩ = some (.int .u8 (x : Int))) ∧ w.frozen? ⟨g, p + i, none⟩ = false)
def Wr (base top : Nat) (w : World) (v : Value) : Prop := ∃ a n cap, v = .slice a n cap ∧ n ≤ 9223372036854775807 ∧ (0 < n → ∃ T o, a = some ⟨T, o, none⟩ ∧ base ≤ T ∧ T < top ∧ WrAt base top T o n w)
/-- the same, wherever the list of the rows lies -/
def WrG (base top : Nat) (w : World) (v : Value) : Prop := ∃ a n cap, v = .slice a n cap ∧ n ≤ 9223372036854775807 ∧ (0 < n → ∃ T o, a = some ⟨T, o, none⟩ ∧ WrAt base top T o n w)
theorem Wr.g {base top : Nat} {w : World} {v : Value} (h : Wr base top w v) : WrG base top w v := by
  obtain ⟨a, n, cap, h1, h2, h3⟩ := h
  refine ⟨a, n, cap, h1, h2, fun hp => ?_⟩
  obtain ⟨T, o, e, _, _, h4⟩ := h3 hp
  exact ⟨T, o, e, h4⟩
/-- nothing below base is changed, nothing from top on -/
def Keeps (base top : Nat) (w w' : World) : Prop := Below base w w' ∧ ∀ b, top ≤ b → w'.heap[b]? = w.heap[b]?
theorem Wr.nil (base top : Nat) (w : World) : Wr base top w (.slice none 0 0) := ⟨none, 0, 0, rfl, by omega, fun h => absurd h (by omega)⟩
theorem WrAt.same {base top T o n : Nat} {w w' : World} (h0 : base ≤ T) (h1 : T < top) (h : WrAt base top T o n w) (hk : ∀ b, base ≤ b → b < top → w'.heap[b]? = w.heap[b]?) : WrAt base top T o n w' := by
  have hc : ∀ b i, base ≤ b → b < top → w'.cell? ⟨b, i, none⟩ = w.cell? ⟨b, i, none⟩ ∧ w'.frozen? ⟨b, i, none⟩ = w.frozen? ⟨b, i, none⟩ := fun b i p q => by
    simp only [World.cell?, World.frozen?, hk b p q, and_self]
  intro j hj
  obtain ⟨b, k, c, e1, e2, e3⟩ := h j hj
  refine ⟨b, k, c, by rw [(hc T _ h0 h1).1]; exact e1, e2, fun hp => ?_⟩
  obtain ⟨g, p, r1, r2, r3, r4, r5⟩ := e3 hp
  refine ⟨g, p, r1, r2, r3, r4, fun i hi => ?_⟩
  rw [(hc g _ r2 r3).1, (hc g _ r2 r3).2]
  exact r5 i hi
theorem Wr.same {base top : Nat} {w w' : World} {v : Value} (h : Wr base top w v) (hk : ∀ b, base ≤ b → b < top → w'.heap[b]? = w.heap[b]?) : Wr base top w' v := by
  obtain ⟨a, n, cap, h1, h2, h3⟩ := h
  refine ⟨a, n, cap, h1, h2, fun hp => ?_⟩
  obtain ⟨T, o, e, k0, k1, h4⟩ := h3 hp
  exact ⟨T, o, e, k0, k1, WrAt.same k0 k1 h4 hk⟩
theorem byte_set {w : World} {a b : Addr} {x : Nat} (hx : x < 256) (h : ∃ y : Nat, y < 256 ∧ w.cell? a = some (.int .u8 (y : Int))) : ∃ y : Nat, y < 256 ∧ (w.setCell b (.int .u8 (x : Int))).cell? a = some (.int .u8 (y : Int)) := by
  obtain ⟨y, hy, h⟩ := h
  by_cases hab : b = a
  · subst hab; exact ⟨x, hx, World.cell?_setCell_same _ _ _ h⟩
  · exact ⟨y, hy, by rw [World.cell?_setCell_other _ _ _ _ hab]; exact h⟩
theorem WrAt.set {base top T o n : Nat} {w : World} (h : WrAt base top T o n w) {g i x : Nat} (hg : g ≠ T) (hx : x < 256) : WrAt base top T o n (w.setCell ⟨g, i, none⟩ (.int .u8 (x : Int))) := by
  intro j hj
  obtain ⟨b, k, c, h1, h2, h3⟩ := h j hj
  refine ⟨b, k, c, ?_, h2, fun hk => ?_⟩
  · rw [World.cell?_setCell_far _ _ _ _ hg]; exact h1
  · obtain ⟨g', p, rfl, hb, ht, hn, hc⟩ := h3 hk
    exact ⟨g', p, rfl, hb, ht, hn, fun i hi => ⟨byte_set hx (hc i hi).1, by rw [World.frozen?_setCell]; exact (hc i hi).2⟩⟩
theorem WrAt.drewN {base top T o n : Nat} {w : World} (h : WrAt base top T o n w) (k : Nat) : WrAt base top T o n (w.drewN k) := h
theorem WrAt.drew {base top T o n : Nat} {w : World} (h : WrAt base top T o n w) : WrAt base top T o n w.drew := h
theorem spoil_any (base top : Nat) (v : Value) (w : World) (h : WrG base top w v) :
    Calls Try.prog 23 #[v] w fun e w' => e = .returned (.tuple #[]) ∧ Keeps base top w w' := by
  obtain ⟨a, n, cap, rfl, hn, hr⟩ := h
  go_enter Try.func23, Try.ntmps23
  go_wp2_with fail
  go_loopw [2] (fun vi wr => ∃ k : Nat, k ≤ n ∧ vi = .int .i64 (k : Int) ∧ Hid (0 < n → ∃ T o, a = some ⟨T, o, none⟩ ∧ WrAt base top T o n wr) ∧ Keeps base top w wr) (fun vi _ => n - (intOf vi).toNat)
  case atStart => exact ⟨0, by omega, rfl, hr, Below.refl _ _, fun _ _ => rfl⟩
  case round =>
    obtain ⟨i, hi, rfl, hw, hb⟩ := hrel
    clear hr
    by_cases hlt : i < n
    · obtain ⟨T, o, rfl, hw'⟩ := hw.out (by omega)
      obtain ⟨b, k, c, h1, h2, h3⟩ := hw' i hlt
      clear h3
      have HW : Hid (WrAt base top T o n wr) := hw'
      clear hw hw'
      have d0 : (i : Int) < (n : Int) := by omega
      go_wp2_with fail
      go_loopw [3] (fun vj W => ∃ m : Nat, m ≤ k ∧ vj = .int .i64 (m : Int) ∧ Hid (WrAt base top T o n W) ∧ W.cell? ⟨T, o + i, none⟩ = some (.slice b k c) ∧ Keeps base top w W) (fun vj _ => k - (intOf vj).toNat)
      case atStart => exact ⟨0, by omega, rfl, HW, h1, hb⟩
      case round =>
        obtain ⟨m, hm, rfl, hW, hT, hB⟩ := hrel
        clear h1 HW hb
        by_cases hmk : m < k
        · obtain ⟨b', k', c', e1, _, e3⟩ := hW.out i hlt
          rw [hT] at e1
          simp only [Option.some.injEq, Value.slice.injEq] at e1
          obtain ⟨rfl, rfl, rfl⟩ := e1
          obtain ⟨g, p, rfl, hbg, hgt, hgT, hc⟩ := e3 (by omega)
          obtain ⟨⟨x, hx, cx⟩, fx⟩ := hc m hmk
          clear e3 hc
          have d1 : (m : Int) < (k : Int) := by omega
          obtain ⟨y, hy, ey⟩ : ∃ y : Nat, y < 256 ∧ IntKind.u8.wrap ((x : Int) + 77) = (y : Int) := ⟨(x + 77) % 256, Nat.mod_lt _ (by decide), by rw [IntKind.wrap_u8']; omega⟩
          go_wp2_with fail
          go_region
          go_wp2_with fail
          exact ⟨⟨m + 1, by omega, rfl, (hW.out.set hgT hy).drew, by rw [World.cell?_drew, World.cell?_setCell_far _ _ _ _ hgT]; exact hT, (hB.1.setCell hbg _).drew, fun b hb => by
            show (wr.setCell _ _).heap[b]? = _
            rw [Below.heap_setCell _ _ _ _ (show b ≠ g by omega)]; exact hB.2 b hb⟩, by simp [intOf]; omega⟩
        · obtain rfl : m = k := by omega
          go_wp2_with fail
          exact ⟨⟨i + 1, by omega, rfl, fun _ => ⟨T, o, rfl, hW.out⟩, hB⟩, by simp [intOf]; omega⟩
    · obtain rfl : i = n := by omega
      go_wp2_with fail
      go_end0
      exact ⟨rfl, hb⟩
end Go.Proofs.Ytnihohcdamhidaa
