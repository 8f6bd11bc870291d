/- The contract of the program's fresh: none of some digests is there, nor stands there twice. -/
import Derived.Test.YtknddbmnciodaaaGreatStand
import Derived.Test.YtknddbmnciodaaaGreatOwn
import Derived.Maps.OwnSet
namespace Go.Proofs.YtknddbmnciodaaaGreat
open Go.RowKit Go.Maps
open Ix
set_option linter.unusedVariables false
theorem key9 : Go.Maps.Keyed Tryz.prog 9 := Go.Maps.string_keyed Tryz.underlying9
theorem keyOf9 {n : ByteArray} (hn : n.size ≤ maxLen) : keyOf Tryz.prog 9 (.string n) = some (.string n.data.toList) := by
  have h9 := Tryz.underlying9
  simp [keyOf, h9, mapKey, hn]
theorem zero63 (w : World) : (zeroValue 75).run Tryz.prog w = .ok (.agg #[]) w := by kernel_rfl
/-- block b is a map whose keys are these texts; it has as many as there are -/
def SMap (w : World) (b : Nat) (l : List ByteArray) : Prop := ∃ (D : DataW Unit) (k : Nat), k ≤ l.length ∧ w.ownsMap Tryz.prog 9 unitElem b k D ∧ Go.Maps.IsMap D ∧ ∀ s : ByteArray, Go.Maps.has D (.string s.data.toList) = inC l s
theorem SMap.lt {w : World} {b : Nat} {l : List ByteArray} (h : SMap w b l) : b < w.heap.size := by
  obtain ⟨D, k, _, h1, _⟩ := h
  exact h1.lt
theorem SMap.below {w w' : World} {b B : Nat} {l : List ByteArray} (h : SMap w b l) (hb : Below B w w') (hB : b < B) : SMap w' b l := by
  obtain ⟨D, k, hk, ⟨es, clock, h1, h2⟩, h3⟩ := h
  exact ⟨D, k, hk, ⟨es, clock, by rw [hb.block b hB]; exact h1, h2⟩, h3⟩
theorem SMap.made (w : World) : SMap (w.alloc (.map #[] 0)) w.heap.size [] :=
  ⟨.map [], 0, Nat.le_refl _, World.ownsMap_made _ _ _ _, ⟨_, rfl⟩, fun s => by simp [Go.Maps.has, inC]⟩
theorem SMap.look {w : World} {b : Nat} {l : List ByteArray} (h : SMap w b l) (s : ByteArray) (hs : s.size ≤ maxLen) : (Instr.lookup 74 (.map (some b)) (.string s) true).run Tryz.prog w = .ok (.tuple #[.agg #[], .bool (inC l s)]) w := by
  obtain ⟨D, k, _, h1, h2, h3⟩ := h
  obtain ⟨v, ps, hrun, hv⟩ := h1.look_ok key9 Tryz.underlying74 (zero63 _) unitElem_mk (keyOf9 hs)
  obtain ⟨rfl, _⟩ := unitElem_inv hv
  rw [hrun, h3]
theorem SMap.put {w : World} {b : Nat} {l : List ByteArray} (h : SMap w b l) (hl : l.length < maxLen) (s : ByteArray) (hs : s.size ≤ maxLen) : ∃ w', (Instr.mapUpdate 74 (.map (some b)) (.string s) (.agg #[])).run Tryz.prog w = .ok () w' ∧ SMap w' b (l ++ [s]) ∧ w.grownBy w' (some b) := by
  obtain ⟨D, k, hk, h1, h2, h3⟩ := h
  obtain ⟨w', hrun, r1, r2⟩ := h1.update key9 Tryz.underlying74 (by omega) (keyOf9 hs) unitElem_mk
  have hkl : WideAt.IsKeyLit (.string s.data.toList) := trivial
  refine ⟨w', hrun, ⟨_, _, by rw [List.length_append]; exact Nat.add_le_add_right hk 1, r1, h2.put _ _, fun t => ?_⟩, r2⟩
  by_cases e : t = s
  · subst e
    rw [Go.Maps.has_put_same h2 hkl]; exact (inC_yes (by simp)).symm
  · have hne : (Lit.string t.data.toList) ≠ .string s.data.toList := fun hh => e (by
      have h4 : t.data.toList = s.data.toList := by simpa using hh
      exact ba_ext h4)
    rw [Go.Maps.has_put_other hne, h3, Bool.eq_iff_iff, inC_iff, inC_iff, List.mem_append]
    refine ⟨.inl, fun h => h.elim id fun h => ?_⟩
    exact absurd (by simpa using h) e
/-- are the first n new, each? -/
def frN (C D : List ByteArray) : Nat → Bool
  | 0 => true
  | n + 1 => frN C D n && (!inC C (D.getD n ⟨#[]⟩) && !inC (D.take n) (D.getD n ⟨#[]⟩))
theorem frN_mono {C D : List ByteArray} {n m : Nat} (h : frN C D n = false) (hm : n ≤ m) : frN C D m = false := by
  induction m with
  | zero => have : n = 0 := by omega
            subst this; exact h
  | succ m ih =>
    by_cases e : n = m + 1
    · subst e; exact h
    · rw [frN, ih (by omega), Bool.false_and]
set_option maxHeartbeats 8000000 in
theorem fresh_any (C D : List ByteArray) (A B : Option Addr) (c c' : Nat) (hr : RiseK C) (hn : C.length ≤ 100000) (hm : D.length ≤ 100000) (hs : ∀ d ∈ D, d.size ≤ 1000000) (w : World) (hC : Tx w A C) (hD : Tx w B D) :
    Calls Tryz.prog 43 #[.slice A C.length c, .slice B D.length c'] w fun e w' => e = .returned (.bool (frN C D D.length)) ∧ Below w.heap.size w w' := by
  have hmm := @run_makeMap Tryz.prog
  have hP0 := hid (SMap.made w)
  have bB : Below w.heap.size w (w.alloc (.map #[] 0)) := (Below.refl _ _).alloc (Nat.le_refl _) _
  have HS := hid (fun (d : ByteArray) W (hb : Below w.heap.size w W) => standing_any C A c d hr hn W (hC.below hb))
  have HD := hid hD
  have HSZ := hid hs
  clear hC hD hr hs
  generalize hp : C.length = p at *
  clear hp
  obtain ⟨n, hnn⟩ : ∃ n, n = D.length := ⟨_, rfl⟩
  have HN := hid hnn
  rw [← hnn] at hm ⊢
  clear hnn
  go_enter Tryz.func43, Tryz.ntmps43
  go_wp2_with fail
  go_loopw [15] (fun v15 wr => ∃ k : Nat, k ≤ n ∧ v15 = .int .i64 (k : Int) ∧ Hid (SMap wr w.heap.size (D.take k)) ∧ Hid (frN C D k = true) ∧ Hid (Below w.heap.size w wr)) (fun v15 _ => n - (intOf v15).toNat)
  case atStart => exact ⟨0, Nat.zero_le _, rfl, hP0, hid rfl, hid bB⟩
  case round =>
    obtain ⟨k, hk, rfl, hP, HF, HB⟩ := hrel
    clear hP0 bB
    by_cases hlt : k < n
    · have hkl : k < D.length := by rw [← HN.out]; exact hlt
      obtain ⟨g, o, rfl, hg, c0⟩ := tx_cell HD.out HB.out hkl
      have i1 : (k : Int) < (n : Int) := by omega
      have wk : IntKind.i64.wrap ((k : Int) + 1) = ((k + 1 : Nat) : Int) := by rw [IntKind.wrap_i64]; omega
      have hsz := HSZ.out _ (getD_mem hkl)
      have hlook := hid (fun W (hW : Below wr.heap.size wr W) => (hP.out.below hW hP.out.lt).look (D.getD k ⟨#[]⟩) (by unfold maxLen; omega))
      have HTN := hid (take_next D ⟨#[]⟩ k hkl)
      have htl1 : (D.take k).length = k := by rw [List.length_take]; omega
      have HPut : Hid (∀ W, Below wr.heap.size wr W → ∃ w', (Instr.mapUpdate 74 (.map (some w.heap.size)) (.string (D.getD k ⟨#[]⟩)) (.agg #[])).run Tryz.prog W = .ok () w' ∧ SMap w' w.heap.size (D.take (k + 1)) ∧ W.grownBy w' (some w.heap.size)) := hid fun W hW => by
        rw [HTN.out]
        exact (hP.out.below hW hP.out.lt).put (by rw [htl1]; unfold maxLen; omega) _ (by unfold maxLen; omega)
      have HX : Hid (frN C D (k + 1) = (!inC C (D.getD k ⟨#[]⟩) && !inC (D.take k) (D.getD k ⟨#[]⟩))) := hid (by rw [frN, HF.out, Bool.true_and])
      have C1 := HS.out (D.getD k ⟨#[]⟩) wr HB.out
      have hml := hP.out.lt
      generalize D.getD k ⟨#[]⟩ = s at *
      generalize inC C s = x1 at *
      generalize inC (D.take k) s = x2 at *
      clear htl1 HTN hP
      go_wp2_with fail
      refine C1.mono ?_
      rintro e w1 ⟨⟨i, rfl, _⟩, b1⟩
      have B1 := hid b1
      have HB1 := hid (HB.out.trans (b1.mono HB.out.size))
      clear C1 b1
      cases x1 with
      | true =>
        go_wp2_with fail
        go_ret
        exact ⟨by rw [frN_mono HX.out (by omega)]; rfl, HB1.out⟩
      | false =>
        have h3 := hlook.out _ B1.out
        cases x2 with
        | true =>
          clear HPut
          go_wp2_with fail
          go_ret
          exact ⟨by rw [frN_mono HX.out (by omega)]; rfl, HB1.out.alloc HB1.out.size _⟩
        | false =>
          obtain ⟨w3, hput, hP3, hgr⟩ := HPut.out (w1.alloc (.cells #[] 75)) (B1.out.alloc B1.out.size _)
          have HP3 := hid hP3
          have hB3 : Below w.heap.size w w3 := (HB1.out.alloc HB1.out.size _).grown hgr (by have := HB1.out.size; simp; omega) (fun j hj => by cases hj; exact Nat.le_refl _)
          have HB3 := hid hB3
          clear HPut hP3 hgr hB3
          go_wp2_with fail
          go_roundw
          case rel => exact ⟨k + 1, by omega, by rfl, HP3, HX, HB3⟩
          case measure => first | (simp [intOf]; done) | (simp [intOf]; omega)
    · obtain rfl : n = k := by omega
      have j1 : ¬ ((n : Int) < (n : Int)) := by omega
      go_wp2_with fail
      go_ret
      exact ⟨by rw [HF.out]; rfl, HB.out⟩
end Go.Proofs.YtknddbmnciodaaaGreat

