/- Rows, ints, strings, lists of rows that are written out; is. -/
import Derived.Test.YtnihohcdamhidaaROf
namespace Go.Proofs.Ytnihohcdamhidaa
open Go.RowKit
/-- block g holds these strings -/
def Strs (w : World) (v : Value) (ss : List (List Nat)) : Prop := ∃ g cap, v = .slice (some ⟨g, 0, none⟩) ss.length cap ∧ ss.length ≤ 9223372036854775807 ∧ g < w.heap.size ∧ (∀ j, j < ss.length → w.cell? ⟨g, j, none⟩ = some (.string (ofBs (ss.getD j [])))) ∧ ∀ j, j < ss.length → ∀ x ∈ ss.getD j [], x < 256
theorem is_any (v1 v2 : Value) (l1 l2 : List (List Nat)) (w : World) (h1 : Mat w v1 l1) (h2 : Strs w v2 l2) :
    Calls Try.prog 15 #[v1, v2] w fun e w' => e = .returned (.bool (decide (l1 = l2))) ∧ Below w.heap.size w w' := by
  obtain ⟨a1, c1, rfl, hl1, hc1⟩ := h1
  obtain ⟨g2, c2, rfl, hl2, hg2, hd2, hx2⟩ := h2
  by_cases hl : l1.length = l2.length
  · have HE : Hid (∀ j, j < l1.length → l1.getD j [] = l2.getD j []) → l1 = l2 := fun hh => ext_getD [] hl hh.out
    have HD2 : Hid (∀ j, j < l1.length → w.cell? ⟨g2, j, none⟩ = some (.string (ofBs (l2.getD j []))) ∧ ∀ x ∈ l2.getD j [], x < 256) := fun j hj => ⟨hd2 j (by omega), hx2 j (by omega)⟩
    rw [← hl] at hl2 ⊢
    clear hl hd2 hx2
    generalize hn : l1.length = n at *
    have e0 : ((n : Int) != (n : Int)) = false := by simp
    go_enter Try.func15, Try.ntmps15
    go_wp2_with fail
    go_loopw [5] (fun vi wr => ∃ k : Nat, k ≤ n ∧ vi = .int .i64 (k : Int) ∧ Hid (∀ j, j < k → l1.getD j [] = l2.getD j []) ∧ Below w.heap.size w wr) (fun vi _ => n - (intOf vi).toNat)
    case atStart => exact ⟨0, by omega, rfl, fun j hj => absurd hj (by omega), Below.refl _ _⟩
    case round =>
      obtain ⟨k, hk, rfl, hj, hb⟩ := hrel
      by_cases hlt : k < n
      · obtain ⟨g1, o1, rfl, hg1, hd1⟩ := hc1 (by omega)
        obtain ⟨r1, k1, hr1⟩ := hd1 k hlt
        obtain ⟨k2, hx2⟩ := HD2.out k hlt
        replace k1 := cell_below hb hg1 k1
        replace k2 := cell_below hb hg2 k2
        replace hr1 := hr1.below hb
        have d0 : (k : Int) < (n : Int) := by omega
        generalize hp1 : l1.getD k [] = p1 at *
        generalize hp2 : l2.getD k [] = p2 at *
        have x1 : Hid (∀ x ∈ p1, x < 256) := hr1.choose_spec.choose_spec.2.2.1
        have x2 : Hid (∀ x ∈ p2, x < 256) := hx2
        have HS : Hid (∀ W, Below wr.heap.size wr W → Below w.heap.size w W ∧ W.cell? ⟨g1, o1 + k, none⟩ = some r1 ∧ W.cell? ⟨g2, k, none⟩ = some (.string (ofBs p2)) ∧ (convert 32 9 r1).run Try.prog W = .ok (.string (ofBs p1)) W) := fun W hW =>
          ⟨belowCall hb hW, cell_below hW (Nat.lt_of_lt_of_le hg1 hb.size) k1, cell_below hW (Nat.lt_of_lt_of_le hg2 hb.size) k2, conv_row (hr1.below hW)⟩
        have BR := Below.refl wr.heap.size wr
        clear hr1 k1 k2 hx2
        by_cases he : p1 = p2
        · obtain rfl := he
          go_wp2_with fail
          go_region_held3 (fun W => Below w.heap.size w W ∧ W.cell? ⟨g1, o1 + k, none⟩ = some r1 ∧ W.cell? ⟨g2, k, none⟩ = some (.string (ofBs p1)) ∧ (convert 32 9 r1).run Try.prog W = .ok (.string (ofBs p1)) W) (exact HS.out _ BR.drew) ((fail))
          go_wp2_with fail
          exact ⟨⟨k + 1, by omega, rfl, fun j hj' => by
            by_cases hjk : j < k
            · exact hj.out j hjk
            · obtain rfl : j = k := by omega
              rw [hp1, hp2], hb.drew⟩, by simp [intOf]; omega⟩
        · have e1 : ((ofBs p1).toList == (ofBs p2).toList) = false := str_ne x1.out x2.out he
          have hr : decide (l1 = l2) = false := by rw [decide_eq_false_iff_not]; rintro rfl; exact he (hp1.symm.trans hp2)
          go_wp2_with fail
          go_region_held3 (fun W => Below w.heap.size w W ∧ W.cell? ⟨g1, o1 + k, none⟩ = some r1 ∧ W.cell? ⟨g2, k, none⟩ = some (.string (ofBs p2)) ∧ (convert 32 9 r1).run Try.prog W = .ok (.string (ofBs p1)) W) (exact HS.out _ BR.drew) ((fail))
          go_wp2_with fail
          go_ret
          exact ⟨by rw [hr]; rfl, hb.drew⟩
      · obtain rfl : k = n := by omega
        have hr : decide (l1 = l2) = true := by rw [decide_eq_true_iff]; exact HE hj
        go_wp2_with fail
        go_ret
        exact ⟨by rw [hr]; rfl, hb⟩
  · have hr : decide (l1 = l2) = false := by rw [decide_eq_false_iff_not]; rintro rfl; exact hl rfl
    rw [hr]
    have e0 : ((l1.length : Int) != (l2.length : Int)) = true := by simp; omega
    go_enter Try.func15, Try.ntmps15
    go_wp2_with fail
    go_ret
    exact ⟨rfl, Below.refl _ _⟩
theorem row_lit {w : World} {g c : Nat} {l : List Nat} (h : Has w g (U8s l) 5) (hx : ∀ x ∈ l, x < 256) (hl : l.length ≤ 1000000) : Row8 w (.slice (some ⟨g, 0, none⟩) l.length c) l :=
  ⟨_, _, rfl, by omega, hx, fun _ => ⟨g, 0, rfl, h.lt, fun j hj => by rw [Nat.zero_add, h.cell, U8s_get _ _ hj]⟩⟩
theorem ints_lit {w : World} {g c : Nat} {zs : List Int} {t : TypeId} (h : Has w g (zs.map fun z => Value.int .i64 z).toArray t) (hl : zs.length ≤ 1000000) : Ints w (.slice (some ⟨g, 0, none⟩) zs.length c) zs :=
  ⟨_, _, rfl, by omega, fun _ => ⟨g, 0, rfl, h.lt, fun j hj => by rw [Nat.zero_add, h.cell]; simp [List.getD_eq_getElem?_getD, List.getElem?_eq_getElem hj]⟩⟩
theorem strs_lit {w : World} {g c : Nat} {ss : List (List Nat)} {t : TypeId} (h : Has w g (ss.map fun s => Value.string (ofBs s)).toArray t) (hl : ss.length ≤ 1000000) (hx : ∀ j, j < ss.length → ∀ x ∈ ss.getD j [], x < 256) : Strs w (.slice (some ⟨g, 0, none⟩) ss.length c) ss :=
  ⟨_, _, rfl, by omega, h.lt, fun j hj => by rw [h.cell]; simp [List.getD_eq_getElem?_getD, List.getElem?_eq_getElem hj], hx⟩
/-- a list of rows that is told by its rows' values -/
theorem mat_lit {w : World} {g c : Nat} {vs : List Value} {m : List (List Nat)} {t : TypeId} (h : Has w g vs.toArray t) (hl : vs.length = m.length) (hm : m.length ≤ 1000000) (hr : ∀ j, j < m.length → Row8 w (vs.getD j (.bool false)) (m.getD j [])) : Mat w (.slice (some ⟨g, 0, none⟩) m.length c) m :=
  ⟨_, _, rfl, by omega, fun _ => ⟨g, 0, rfl, h.lt, fun j hj => ⟨vs.getD j (.bool false), by rw [Nat.zero_add, h.cell]; simp [List.getD_eq_getElem?_getD, List.getElem?_eq_getElem (show j < vs.length by omega)], hr j hj⟩⟩⟩
/-- a list of two rows, written out -/
theorem mat2 {w : World} {g g0 g1 c : Nat} {l0 l1 : List Nat} (h : Has w g #[.slice (some ⟨g0, 0, none⟩) l0.length l0.length, .slice (some ⟨g1, 0, none⟩) l1.length l1.length] 32) (h0 : Has w g0 (U8s l0) 5) (h1 : Has w g1 (U8s l1) 5)
    (x0 : ∀ x ∈ l0, x < 256) (x1 : ∀ x ∈ l1, x < 256) (n0 : l0.length ≤ 1000000) (n1 : l1.length ≤ 1000000) : Mat w (.slice (some ⟨g, 0, none⟩) 2 c) [l0, l1] := by
  refine mat_lit (m := [l0, l1]) (vs := [.slice (some ⟨g0, 0, none⟩) l0.length l0.length, .slice (some ⟨g1, 0, none⟩) l1.length l1.length]) h rfl (by simp) (fun j hj => ?_)
  have hj' : j < 2 := hj
  by_cases hj0 : j = 0
  · subst hj0; exact row_lit h0 x0 n0
  · obtain rfl : j = 1 := by omega
    exact row_lit h1 x1 n1
theorem mat1 {w : World} {g g0 c : Nat} {l0 : List Nat} (h : Has w g #[.slice (some ⟨g0, 0, none⟩) l0.length l0.length] 32) (h0 : Has w g0 (U8s l0) 5)
    (x0 : ∀ x ∈ l0, x < 256) (n0 : l0.length ≤ 1000000) : Mat w (.slice (some ⟨g, 0, none⟩) 1 c) [l0] := by
  refine mat_lit (m := [l0]) (vs := [.slice (some ⟨g0, 0, none⟩) l0.length l0.length]) h rfl (by simp) (fun j hj => ?_)
  obtain rfl : j = 0 := by have : j < 1 := hj; omega
  exact row_lit h0 x0 n0
theorem ex_one : ans1 2 = [[1, 0], [0, 1]] := by decide +kernel
theorem ex_of : ansC 2 4 = [[1, 0], [0, 1], [142, 244], [244, 142]] := by decide +kernel
theorem ex_vec : ansV [[1, 0], [0, 1], [142, 244], [244, 142]] [5, 7] = [5, 7, 122, 142] := by decide +kernel
theorem ex_rows : ansR [[1, 0], [0, 1], [142, 244], [244, 142]] [1, 1] = [[0, 1], [0, 1]] := by decide +kernel
theorem ex_err : err1 2 = 0 ∧ errC 2 4 = 0 ∧ errV [[1, 0], [0, 1], [142, 244], [244, 142]] [5, 7] = 0 ∧ errR [[1, 0], [0, 1], [142, 244], [244, 142]] [1, 1] = 0 ∧ errM [[1, 2], [3, 4]] [[1, 2, 3]] = 4 := by decide +kernel
theorem ex_fld : Fld.inv 2 = 142 ∧ Fld.inv 3 = 244 ∧ Fld.mul 142 5 = 140 ∧ Fld.mul 244 7 = 246 ∧ 140 ^^^ 246 = 122 := by decide +kernel
end Go.Proofs.Ytnihohcdamhidaa
