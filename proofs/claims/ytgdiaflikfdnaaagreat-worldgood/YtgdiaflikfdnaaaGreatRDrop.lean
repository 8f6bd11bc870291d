/- The document's side: objects without one. -/
import Derived.Test.YtgdiaflikfdnaaaGreatObj
namespace Go.Proofs.YtgdiaflikfdnaaaGreat
open Go.RowKit Go.Maps
theorem drop_succ {M : List Ob} {n : ByteArray} {p : Ob} {k : Nat} (h : M[k]? = some p) : drop n (M.take (k + 1)) = drop n (M.take k) ++ (if p.1 = n then [] else [p]) := by
  unfold drop
  rw [List.take_add_one, h, List.filter_append]
  congr 1
  by_cases e : p.1 = n <;> simp [e]
theorem drop_le (n : ByteArray) (M : List Ob) : (drop n M).length ≤ M.length := List.length_filter_le _ _
set_option maxHeartbeats 2000000 in
set_option maxRecDepth 20000 in
theorem refDrop_any {w : World} {v : Value} {M : List Ob} {B : Nat} (h : w.ownsRow B 35 2 v M.length (objCells M)) (hM : M.length ≤ 1000000) (n : ByteArray) : Calls Tryz.prog 77 #[v, .string n] w fun e w' => ∃ v', e = .returned v' ∧ w'.ownsRow w.heap.size 35 2 v' (drop n M).length (objCells (drop n M)) ∧ Below w.heap.size w w' := by
  obtain ⟨a, c, rfl⟩ := row_slice h
  have HR := hid h
  clear h
  generalize hL : M.length = L at *
  have HL := hid hL
  clear hL
  go_enter Tryz.func77, Tryz.ntmps77
  go_wp2_with fail
  go_loopg [5, 6] L (fun gk s5 s6 wx => ∃ k : Nat, k + gk = L ∧ s6 = .int .i64 (k : Int) ∧ wx.ownsRow w.heap.size 35 2 s5 (drop n (M.take k)).length (objCells (drop n (M.take k))) ∧ Below w.heap.size w wx)
  case atStart => exact ⟨0, by omega, rfl, World.ownsRow_nil _ _ _ _, Below.refl _ _⟩
  case round =>
    obtain ⟨k, hk, rfl, hrow, hbw⟩ := hrel
    have HB := hid hbw
    have HRow := hid hrow
    cases gk with
    | zero =>
      have q1 : ¬ ((k : Int) < (L : Int)) := by omega
      have HK := hid (show M.take k = M from List.take_of_length_le (by rw [HL.out]; omega))
      clear hrow hbw
      go_wp2_with fail
      go_ret
      refine ⟨u5, rfl, ?_, HB.out⟩
      have := HRow.out
      rwa [HK.out] at this
    | succ g1 =>
      have q1 : (k : Int) < (L : Int) := by omega
      obtain ⟨p, hp⟩ : ∃ p, M[k]? = some p := ⟨_, List.getElem?_eq_getElem (by rw [HL.out]; omega)⟩
      obtain ⟨ga, ca, ea, d0, d1⟩ := ob_cells (row_below (by rw [HL.out]; exact HR.out) hbw) hp
      rw [HL.out] at ea
      cases ea
      have hds := drop_succ (n := n) hp
      have hz : w.heap.size ≤ wr.heap.size := hbw.size
      have hlen : (drop n (M.take k)).length ≤ 1000000 := Nat.le_trans (drop_le _ _) (by rw [List.length_take]; omega)
      by_cases he : p.1 = n
      · rw [if_pos he, List.append_nil] at hds
        have HD := hid hds
        have q2 : (p.1.toList == n.toList) = true := by rw [str_eq]; exact decide_eq_true he
        clear hds hp hrow hbw he
        go_wp2_with fail
        go_roundg g1
        case measure => omega
        case rel => exact ⟨k + 1, by omega, by first | rfl | simp, by rw [HD.out]; exact HRow.out, HB.out⟩
      · rw [if_neg he] at hds
        have HT := hid (show objCells (drop n (M.take (k + 1))) = objCells (drop n (M.take k)) ++ [.string p.1, .string p.2] from by rw [hds]; exact objCells_snoc _ _)
        have HT2 := hid (show (drop n (M.take (k + 1))).length = (drop n (M.take k)).length + 1 from by rw [hds]; simp)
        have q2 : (p.1.toList == n.toList) = false := by rw [str_eq]; exact decide_eq_false he
        clear hds hp hbw he
        generalize (drop n (M.take k)).length = D at *
        generalize objCells (drop n (M.take k)) = X at *
        go_wp2_with (at_builtin; refine wpList_app el28 rfl _ _ rfl w.heap.size _ D _ rfl (hrow.alloc _) ⟨wr.heap.size, 0, none⟩ 1 1 [.string p.1, .string p.2] rfl (by decide) rfl (new_cells wr [.string p.1, .string p.2] 35) (by simp [Value.oneCell']) (by omega) (by simp; omega) ?_; intro g' cap' w' hr' hgr')
        go_roundg g1
        case measure => omega
        case rel =>
          refine ⟨k + 1, by omega, by first | rfl | simp, ?_, ?_⟩
          · rw [HT.out, HT2.out]; exact hr'
          · exact grown_below ((HB.out).alloc hz _) (HRow.out.alloc _) hgr' (Nat.le_refl _) (by simp; omega)
end Go.Proofs.YtgdiaflikfdnaaaGreat
