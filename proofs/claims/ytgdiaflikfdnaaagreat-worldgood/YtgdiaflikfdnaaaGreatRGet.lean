/- The document's Get and Sync. -/
import Derived.Test.YtgdiaflikfdnaaaGreatRObj
namespace Go.Proofs.YtgdiaflikfdnaaaGreat
open Go.RowKit Go.Maps
theorem look_first {n : ByteArray} {p : Ob} : ∀ (M : List Ob) (k : Nat), (∀ q ∈ M.take k, q.1 ≠ n) → M[k]? = some p → p.1 = n → look n M = some p.2
  | [], k, _, h, _ => by simp at h
  | q :: r, 0, _, h, e => by
    simp at h; subst h
    unfold look
    simp [e]
  | q :: r, k + 1, h1, h, e => by
    have hq : q.1 ≠ n := h1 q (by simp)
    have := look_first r k (fun x hx => h1 x (by simp [hx])) (by simpa using h) e
    unfold look at this ⊢
    rw [List.find?_cons_of_neg (by simpa using hq)]
    exact this
def getR (r : Rf) (n : ByteArray) : ByteArray × Int := if r.down then (⟨#[]⟩, 51) else match look n (seenR r) with
  | some d => (d, 0)
  | none => (⟨#[]⟩, 5)
set_option maxHeartbeats 2000000 in
set_option maxRecDepth 20000 in
theorem refGet_any {w : World} {S : Nat → Prop} {b : Nat} {r : Rf} (h : IsRf w S b r) (hN : r.good.length + r.writes.length ≤ 1000000) (n : ByteArray) : Calls Tryz.prog 64 #[ptr b, .string n] w fun e w' => e = .returned (.tuple #[.string (getR r n).1, .int .i64 (getR r n).2]) ∧ Below w.heap.size w w' := by
  have HO := refObjects_any h hN
  obtain ⟨gv, wv, ⟨c0, c1, c2, c3, c4⟩, _⟩ := h.cells
  clear h
  have hml : (seenR r).length ≤ 1000000 := by
    have := seenK_len r r.writes.length
    unfold seenK at this
    rw [List.take_length] at this
    unfold seenR
    omega
  unfold ptr at *
  cases hd : r.down with
  | true =>
    rw [hd] at c2
    have HG := hid (show getR r n = (⟨#[]⟩, 51) from by unfold getR; rw [hd]; rfl)
    clear hd HO
    go_enter Tryz.func64, Tryz.ntmps64
    go_wp2_with fail
    go_ret2
    exact ⟨by rw [HG.out]; rfl, Below.refl _ _⟩
  | false =>
    rw [hd] at c2
    have HG := hid (show getR r n = match look n (seenR r) with | some d => (d, 0) | none => (⟨#[]⟩, 5) from by unfold getR; rw [hd]; rfl)
    clear hd c0 c1 c3 c4
    go_enter Tryz.func64, Tryz.ntmps64
    go_wp2_with fail
    refine HO.mono ?_
    clear HO
    rintro x w1 ⟨v, rfl, hr, hb⟩
    generalize seenR r = M at *
    obtain ⟨a, c, rfl⟩ := row_slice hr
    have HR := hid hr
    have HB := hid hb
    clear hr hb c2
    generalize hL : M.length = L at *
    have HL := hid hL
    clear hL
    go_wp2_with fail
    go_loopg [7] L (fun gk s7 wx => ∃ k : Nat, k + gk = L ∧ s7 = .int .i64 (k : Int) ∧ Hid (∀ p ∈ M.take k, p.1 ≠ n) ∧ wx = w1)
    case atStart => exact ⟨0, by omega, rfl, hid (fun p hp => by simp at hp), rfl⟩
    case round =>
      obtain ⟨k, hk, rfl, HT, rfl⟩ := hrel
      cases gk with
      | zero =>
        have q1 : ¬ ((k : Int) < (L : Int)) := by omega
        have HE := hid (show look n M = none from look_none.2 (by
          have := HT.out
          rwa [List.take_of_length_le (by rw [HL.out]; omega)] at this))
        clear HT
        go_wp2_with fail
        go_ret2
        exact ⟨by rw [HG.out, HE.out]; rfl, HB.out⟩
      | succ g1 =>
        have q1 : (k : Int) < (L : Int) := by omega
        obtain ⟨p, hp⟩ : ∃ p, M[k]? = some p := ⟨_, List.getElem?_eq_getElem (by rw [HL.out]; omega)⟩
        obtain ⟨ga, ca, ea, d0, d1⟩ := ob_cells (by rw [HL.out]; exact HR.out) hp
        rw [HL.out] at ea
        cases ea
        by_cases he : p.1 = n
        · have HE := hid (look_first M k HT.out hp he)
          have q2 : (p.1.toList == n.toList) = true := by rw [str_eq]; exact decide_eq_true he
          clear hp he HT
          go_wp2_with fail
          go_ret2
          exact ⟨by rw [HG.out, HE.out]; rfl, HB.out⟩
        · have HS := hid (show ∀ q ∈ M.take (k + 1), q.1 ≠ n from fun q hq => by
            rw [List.take_add_one, hp] at hq
            rcases List.mem_append.1 hq with h' | h'
            · exact HT.out q h'
            · simp at h'; rw [h']; exact he)
          have q2 : (p.1.toList == n.toList) = false := by rw [str_eq]; exact decide_eq_false he
          clear hp he HT
          go_wp2_with fail
          go_roundg g1
          case measure => omega
          case rel => exact ⟨k + 1, by omega, by first | rfl | simp, HS, rfl⟩
/-- what is seen stands for good -/
theorem AfterR.good {w w1 : World} {S : Nat → Prop} {b : Nat} {r : Rf} (h : IsRf w S b r) {v : Value} {M : List Ob} (hr : w1.ownsRow w.heap.size 35 2 v M.length (objCells M)) (hb : Below w.heap.size w w1) : AfterR w ((w1.setCell ⟨b, 0, none⟩ v).setCell ⟨b, 1, none⟩ (.slice none 0 0)) S b { r with good := M, writes := [] } := by
  obtain ⟨gv, wv, h1, h2, h3, h4, h5, h6, h7⟩ := h.below hb
  have g1 := h1.set 0 v
  have g2 := g1.set 1 (.slice none 0 0)
  refine ⟨fun i => S i ∨ (w.heap.size ≤ i ∧ i < w1.heap.size), ⟨v, .slice none 0 0, g2, row_setb (row_setb (row_base hr (Nat.zero_le _)) h1 (by decide) 0 v) g1 (by decide) 1 _, World.ownsRow_nil _ _ _ _, .inl h4, fun g hg => .inr (row_lt hr hg), fun g hg => by simp [Value.ownBlock] at hg, fun i hi => ?_⟩, fun i hi => ?_, ?_⟩
  · have : i < w1.heap.size := by
      rcases hi with hi | hi
      · exact h7 i hi
      · exact hi.2
    simpa [World.setCell] using this
  · rcases hi with hi | hi
    · exact .inl hi
    · exact .inr hi.1
  · exact ((Only.of_below hb).set (p := ⟨b, 0, none⟩) (.inl h4) v).set (p := ⟨b, 1, none⟩) (.inl h4) _
def syncR (r : Rf) : Int × Rf := if r.down then (51, r) else (0, { r with good := seenR r, writes := [] })
set_option maxHeartbeats 2000000 in
set_option maxRecDepth 20000 in
theorem refSync_any {w : World} {S : Nat → Prop} {b : Nat} {r : Rf} (h : IsRf w S b r) (hN : r.good.length + r.writes.length ≤ 1000000) : Calls Tryz.prog 71 #[ptr b] w fun e w' => e = .returned (.int .i64 (syncR r).1) ∧ AfterR w w' S b (syncR r).2 := by
  have HO := refObjects_any h hN
  have HI := hid h
  obtain ⟨gv, wv, ⟨c0, c1, c2, c3, c4⟩, _⟩ := h.cells
  clear h
  unfold syncR
  unfold ptr at *
  cases hd : r.down with
  | true =>
    rw [hd] at c2
    have HA := hid (AfterR.refl HI.out)
    clear HO
    go_enter Tryz.func71, Tryz.ntmps71
    go_wp2_with fail
    go_ret
    exact ⟨rfl, HA.out⟩
  | false =>
    rw [hd] at c2
    clear c0 c1 c3 c4
    go_enter Tryz.func71, Tryz.ntmps71
    go_wp2_with fail
    refine HO.mono ?_
    clear HO
    rintro x w1 ⟨v, rfl, hr, hb⟩
    obtain ⟨va, vc, rfl⟩ := row_slice hr
    have HA := hid (AfterR.good HI.out hr hb)
    obtain ⟨gv', wv', h1, _⟩ := HI.out.below hb
    generalize (seenR r).length = L at *
    have f0 := h1.frozen 0
    have k0 := h1.cell 0
    have g1 := h1.set 0 (.slice va L vc)
    have f1 := g1.frozen 1
    have k1 : (w1.setCell ⟨b, 0, none⟩ (.slice va L vc)).cell? ⟨b, 1, none⟩ = some wv' := g1.cell 1
    have k0' : w1.cell? ⟨b, 0, none⟩ = some gv' := k0
    clear hr hb h1 g1 k0 c2
    go_wp2_with fail
    go_ret
    exact ⟨rfl, by have := HA.out; rw [hd] at this; exact this⟩
end Go.Proofs.YtgdiaflikfdnaaaGreat
