/- The contract of once: chunks without those that are an earlier one. -/
import Derived.Test.YtjhjolnflkekoaaDoorShut
namespace Go.Proofs.YtjhjolnflkekoaaDoor
open Go.RowKit Go.Maps
open Pk
set_option linter.unusedVariables false
/-- what was met, and what is left, of the first k -/
structure OI (w0 : World) (c : List ByteArray) (k : Nat) (W : World) (F : List ByteArray) (v : Value) : Prop where
  mp : SMap W w0.heap.size F
  row : W.ownsRow (w0.heap.size + 1) 9 1 v F.length (F.map Value.string)
  come : F ++ Gt.firsts F (c.drop k) = Gt.firsts [] c
  below : Below w0.heap.size w0 W
  most : F.length ≤ k
  hi : w0.heap.size + 1 ≤ W.heap.size
theorem drop_nx {c : List ByteArray} {k : Nat} (h : k < c.length) : c.drop k = c.getD k ⟨#[]⟩ :: c.drop (k + 1) := by
  rw [List.drop_eq_getElem_cons h, List.getD_eq_getElem?_getD, List.getElem?_eq_getElem h]; rfl
theorem OI.met {w0 : World} {c : List ByteArray} {k : Nat} {W : World} {F : List ByteArray} {v : Value} (h : OI w0 c k W F v) (hk : k < c.length) (hi : inB F (c.getD k ⟨#[]⟩) = true) (o : Obj) : OI w0 c (k + 1) (W.alloc o) F v :=
  ⟨h.mp.below ((Below.refl _ _).alloc (Nat.le_refl _) _), h.row.alloc _, by rw [← h.come, drop_nx hk, Gt.firsts_met ((inB_mem _ _).1 hi)], h.below.alloc h.below.size _, Nat.le_succ_of_le h.most, by have := h.hi; simp; omega⟩
theorem OI.new {w0 : World} {c : List ByteArray} {k : Nat} {W W1 W2 : World} {F : List ByteArray} {v v' : Value} (h : OI w0 c k W F v) (hk : k < c.length) (hi : inB F (c.getD k ⟨#[]⟩) = false) (o : Obj)
    (h1 : SMap W1 w0.heap.size (F ++ [c.getD k ⟨#[]⟩])) (h2 : (W.alloc o).grownBy W1 (some w0.heap.size)) (o2 : Obj) (h3 : W2.ownsRow (w0.heap.size + 1) 9 1 v' (F.length + 1) (F.map Value.string ++ [.string (c.getD k ⟨#[]⟩)])) (h4 : (W1.alloc o2).grownBy W2 v.ownBlock) :
    OI w0 c (k + 1) W2 (F ++ [c.getD k ⟨#[]⟩]) v' := by
  have hb := h.row.lt
  have hs2 := h2.size
  have hs4 := h4.size
  have hhi := h.hi
  refine ⟨?_, ?_, ?_, ?_, ?_, ?_⟩
  · have hl := h1.lt
    obtain ⟨D, ⟨es, clock, g1, g2⟩, g3⟩ := h1
    refine ⟨D, ⟨es, clock, ?_, g2⟩, g3⟩
    rw [h4.block w0.heap.size (by simp; omega) (fun e => by have := (hb _ e.symm).1; omega), Below.heap_alloc _ _ _ hl]; exact g1
  · rw [List.length_append, List.map_append]; exact h3
  · rw [← h.come, drop_nx hk, Gt.firsts_new (fun e => by rw [(inB_mem _ _).2 e] at hi; cases hi)]; simp
  · have := h.below.size
    exact ((((h.below.alloc h.below.size o).grown h2 (by simp; omega) (fun j hj => by cases hj; exact Nat.le_refl _)).alloc (by simp at hs2; omega) o2).grown h4 (by simp at hs2 ⊢; omega) (fun j hj => by have := (hb _ hj).1; omega))
  · rw [List.length_append]; have := h.most; simp; omega
  · simp at hs2 hs4; omega
set_option maxRecDepth 20000 in
set_option maxHeartbeats 4000000 in
theorem once_any (c : List ByteArray) (A : Option Addr) (cap : Nat) (w : World) (h : Tx w A c) (hc : c.length ≤ 100000) (hct : tot c ≤ 100000000) :
    Calls Tryd.prog 19 #[.slice A c.length cap] w fun e w' => ∃ v, e = .returned v ∧ w'.ownsRow w.heap.size 9 1 v (Gt.firsts [] c).length ((Gt.firsts [] c).map Value.string) ∧ Below w.heap.size w w' := by
  obtain ⟨i0, hi, hz0, hz1, hz2⟩ := info_parts (show (Tryd.prog.info? 9).map (fun i => (i.zero, i.size, i.bytes)) = some (some (.string ⟨#[]⟩), 1, 16) by kernel_rfl)
  have hmm := @run_makeMap Tryd.prog
  obtain ⟨n, hn⟩ : ∃ n, n = c.length := ⟨_, rfl⟩
  have HN := hid hn
  have HL := hid h
  have HCT := hid hct
  have HG0 : Hid (OI w c 0 (w.alloc (.map #[] 0)) [] (.slice none 0 0)) := hid ⟨SMap.made w, World.ownsRow_nil _ _ _ _, by simp, (Below.refl _ _).alloc (Nat.le_refl _) _, Nat.zero_le _, by simp⟩
  rw [← hn] at hc ⊢
  clear hn h hct
  go_enter Tryd.func19, Tryd.ntmps19
  go_wp2_with fail
  go_loopw [4, 6, 7, 8, 12] (fun v4 _ _ _ v12 wr => ∃ (k : Nat) (F : List ByteArray), k ≤ n ∧ v12 = .int .i64 (k : Int) ∧ Hid (OI w c k wr F v4)) (fun _ _ _ _ v12 _ => n - (intOf v12).toNat)
  case atStart => exact ⟨0, [], Nat.zero_le _, rfl, HG0⟩
  case round =>
    clear HG0
    obtain ⟨k, F, hk, rfl, HG⟩ := hrel
    by_cases hlt : k < n
    · have hkc : k < c.length := by rw [← HN.out]; exact hlt
      obtain ⟨gc, oc, rfl, hgc, cc⟩ := tx_cell HL.out HG.out.below hkc
      have hsz : (c.getD k ⟨#[]⟩).size ≤ maxLen := by have := tot_le (getD_mem hkc); have := HCT.out; unfold maxLen; omega
      have hlook := HG.out.mp.look (c.getD k ⟨#[]⟩) hsz
      have i1 : (k : Int) < (n : Int) := by omega
      have wk : IntKind.i64.wrap ((k : Int) + 1) = ((k + 1 : Nat) : Int) := by rw [IntKind.wrap_i64]; omega
      have hml := HG.out.mp.lt
      have hmo := HG.out.most
      have hx1 : k < 1000000 := by omega
      cases hin : inB F (c.getD k ⟨#[]⟩) with
      | true =>
        rw [hin] at hlook
        have HN2 := hid (HG.out.met hkc hin (.cells #[] 62))
        generalize c.getD k ⟨#[]⟩ = s at *
        clear hin hsz
        go_wp2_with fail
        go_roundw
        case rel => exact ⟨k + 1, F, by omega, by rfl, HN2⟩
        case measure => first | (simp [intOf]; done) | (simp [intOf]; omega)
      | false =>
        rw [hin] at hlook
        obtain ⟨w3, hput, hP3, hgr⟩ := (HG.out.mp.below ((Below.refl _ _).alloc (Nat.le_refl _) (.cells #[] 62))).put (by unfold maxLen; omega) (c.getD k ⟨#[]⟩) hsz
        have HNew := hid (fun W2 v' => HG.out.new (W2 := W2) (v' := v') hkc hin _ hP3 hgr (.cells #[.string (c.getD k ⟨#[]⟩)] 9))
        have hrow3 := (HG.out.row.alloc (.cells #[] 62)).kept hgr (by
          right; intro e; have := (HG.out.row.lt _ e).1; omega)
        have hs3 := hgr.size
        have hhi := HG.out.hi
        have hs3' : w.heap.size + 1 ≤ w3.heap.size := by simp at hs3; omega
        have HG3 : Hid (Below wr.heap.size wr wr) := Below.refl _ _
        generalize c.getD k ⟨#[]⟩ = s at *
        clear hin hsz hP3 hgr hs3 hhi
        generalize u4 = v4 at *
        go_wp2_with (at_builtin; go_loud (refine wpList_append_own _ rfl _ _ 22 rfl (w.heap.size + 1) 9 i0 (.string ⟨#[]⟩) 1 16 Tryd.underlying22 hi hz0 hz1 hz2 rfl (by decide) v4 F.length _ rfl (hrow3.alloc _) ⟨w3.heap.size, 0, none⟩ 1 1 [.string s] rfl rfl (cell_one_new _ _ _) (by simp [Value.oneCell']) (by unfold maxLen; omega) (by omega) (by simp; omega) ?_; intro v' w4 hown' hgrow _))
        have HN2 := hid (HNew.out _ _ hown' hgrow)
        go_roundw
        case rel => exact ⟨k + 1, _, by omega, by rfl, HN2⟩
        case measure => first | (simp [intOf]; done) | (simp [intOf]; omega)
    · obtain rfl : k = n := by omega
      have i1 : ¬ ((k : Int) < (k : Int)) := by omega
      have HF : Hid (F = Gt.firsts [] c) := hid (by
        have := HG.out.come
        rw [List.drop_eq_nil_of_le (by rw [← HN.out]; exact Nat.le_refl _)] at this
        simpa [Gt.firsts] using this)
      go_wp2_with fail
      go_ret
      exact ⟨_, rfl, by rw [← HF.out]; exact own_mono HG.out.row (Nat.le_succ _), HG.out.below⟩
end Go.Proofs.YtjhjolnflkekoaaDoor
