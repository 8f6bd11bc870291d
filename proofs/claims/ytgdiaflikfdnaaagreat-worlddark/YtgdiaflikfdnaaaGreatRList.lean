/- The document's List; are two lists of texts the same. -/
import Derived.Test.YtgdiaflikfdnaaaGreatRGet
namespace Go.Proofs.YtgdiaflikfdnaaaGreat
open Go.RowKit Go.Maps
theorem seenR_len {r : Rf} (hN : r.good.length + r.writes.length ≤ 1000000) : (seenR r).length ≤ 1000000 := by
  have := seenK_len r r.writes.length
  unfold seenK at this
  rw [List.take_length] at this
  unfold seenR
  omega
theorem nameCells_snoc (M : List Ob) (p : Ob) : nameCells (M ++ [p]) = nameCells M ++ [.string p.1] := by simp [nameCells]
set_option maxHeartbeats 2000000 in
set_option maxRecDepth 20000 in
theorem refList_any {w : World} {S : Nat → Prop} {b : Nat} {r : Rf} (h : IsRf w S b r) (hN : r.good.length + r.writes.length ≤ 1000000) : Calls Tryz.prog 70 #[ptr b] w fun e w' => ∃ v, e = .returned (.tuple #[v, er (if r.down then 51 else 0)]) ∧ w'.ownsRow w.heap.size 9 1 v (if r.down then [] else seenR r).length (nameCells (if r.down then [] else seenR r)) ∧ Below w.heap.size w w' := by
  have HO := refObjects_any h hN
  obtain ⟨gv, wv, ⟨c0, c1, c2, c3, c4⟩, _⟩ := h.cells
  clear h
  have hml := seenR_len hN
  unfold er
  unfold ptr at *
  cases hd : r.down with
  | true =>
    rw [hd] at c2
    clear hd HO
    go_enter Tryz.func70, Tryz.ntmps70
    go_wp2_with fail
    go_ret2
    exact ⟨_, rfl, World.ownsRow_nil _ _ _ _, Below.refl _ _⟩
  | false =>
    rw [hd] at c2
    clear hd c0 c1 c3 c4
    go_enter Tryz.func70, Tryz.ntmps70
    go_wp2_with fail
    refine HO.mono ?_
    clear HO
    rintro x w1 ⟨v, rfl, hr, hb⟩
    obtain ⟨M, hM⟩ : ∃ M, M = seenR r := ⟨_, rfl⟩
    rw [← hM] at hr hml
    have HM := hid hM
    clear hM
    obtain ⟨a, c, rfl⟩ := row_slice hr
    have HR := hid hr
    have HB := hid hb
    clear hr hb c2
    generalize hL : M.length = L at *
    have HL := hid hL
    clear hL
    go_wp2_with fail
    go_loopg [4, 6] L (fun gk s4 s6 wx => ∃ k : Nat, k + gk = L ∧ s6 = .int .i64 (k : Int) ∧ wx.ownsRow w1.heap.size 9 1 s4 k (nameCells (M.take k)) ∧ Below w1.heap.size w1 wx)
    case atStart => exact ⟨0, by omega, rfl, World.ownsRow_nil _ _ _ _, Below.refl _ _⟩
    case round =>
      obtain ⟨k, hk, rfl, hrow, hbw⟩ := hrel
      have HRow := hid hrow
      have HBw := hid hbw
      cases gk with
      | zero =>
        have q1 : ¬ ((k : Int) < (L : Int)) := by omega
        have hkn : k = L := by omega
        clear hrow hbw
        go_wp2_with fail
        go_ret2
        have := HRow.out
        rw [hkn, List.take_of_length_le (by rw [HL.out]; exact Nat.le_refl _)] at this
        rw [← HL.out, HM.out] at this
        exact ⟨u4, rfl, row_base this HB.out.size, HB.out.trans (HBw.out.mono HB.out.size)⟩
      | succ g1 =>
        have q1 : (k : Int) < (L : Int) := by omega
        obtain ⟨p, hp⟩ : ∃ p, M[k]? = some p := ⟨_, List.getElem?_eq_getElem (by rw [HL.out]; omega)⟩
        obtain ⟨ga, ca, ea, d0, d1⟩ := ob_cells (row_below (by rw [HL.out]; exact HR.out) hbw) hp
        rw [HL.out] at ea
        cases ea
        have HT : Hid (nameCells (M.take (k + 1)) = nameCells (M.take k) ++ [.string p.1]) := hid (by
          rw [List.take_add_one, hp]; exact nameCells_snoc _ _)
        have hz : w1.heap.size ≤ wr.heap.size := hbw.size
        clear hp hbw
        go_wp2_with (at_builtin; refine wpList_app el9 rfl _ _ rfl w1.heap.size _ k _ rfl (hrow.alloc _) ⟨wr.heap.size, 0, none⟩ 1 1 [.string p.1] rfl (by decide) rfl (new_cells wr [.string p.1] 9) (by simp [Value.oneCell']) (by omega) (by simp; omega) ?_; intro g' cap' w' hr' hgr')
        go_roundg g1
        case measure => omega
        case rel =>
          refine ⟨k + 1, by omega, by first | rfl | simp, ?_, ?_⟩
          · rw [HT.out]; exact hr'
          · exact grown_below ((HBw.out).alloc hz _) (HRow.out.alloc _) hgr' (Nat.le_refl _) (by simp; omega)
/-- a list of texts -/
theorem names_cells {w : World} {base : Nat} {v : Value} {M : List Ob} (h : w.ownsRow base 9 1 v M.length (nameCells M)) {k : Nat} {p : Ob} (hp : M[k]? = some p) : ∃ g cap, v = .slice (some ⟨g, 0, none⟩) M.length cap ∧ w.cell? ⟨g, k, none⟩ = some (.string p.1) := by
  rcases row_form h with ⟨_, e, _⟩ | ⟨g, cap, e, hg, _, _, _, hc⟩
  · have := (List.getElem?_eq_some_iff.1 hp).1; omega
  · exact ⟨g, cap, e, hc _ _ (nameCells_get M k p hp)⟩
section
variable {ev : Operand → Value} {o : Oper} {w : World} {x y : Operand}
theorem rn_ix74 {g n c k : Nat} (ho : o.op = .indexAddr 75 x y) (hx : ev x = .slice (some ⟨g, 0, none⟩) n c) (hy : ev y = .int .i64 (k : Int)) (hk : k < n) : (execOp ev o).run Tryz.prog w = .ok (.value (.pointer (some ⟨g, k, none⟩))) w := by
  have q : (k : Int) < (n : Int) := by omega
  simp [execOp, ho, hx, hy, go_sem, q]
theorem rn_neq9 {u v : ByteArray} {c : Bool} (ho : o.op = .binOp .neq 9 x y 9) (hx : ev x = .string u) (hy : ev y = .string v) (hc : decide (u = v) = !c) : (execOp ev o).run Tryz.prog w = .ok (.value (.bool c)) w := by
  have q : (u.toList == v.toList) = !c := by rw [str_eq]; exact hc
  simp [execOp, ho, hx, hy, go_sem, q]
end
end Go.Proofs.YtgdiaflikfdnaaaGreat
