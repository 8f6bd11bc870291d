/- Rows as strings; the document's Same. -/
import Derived.Test.YtjgjcbgeekfkkaaMat
import Derived.Laws.BytesString
import Derived.Laws.Strings
import Derived.WideShapes
namespace Go.Proofs.Ytjgjcbgeekfkkaa
open Go.RowKit
theorem ext_getD {α : Type} {l1 l2 : List α} (d : α) (hl : l1.length = l2.length) (h : ∀ j, j < l1.length → l1.getD j d = l2.getD j d) : l1 = l2 := by
  apply List.ext_getElem hl
  intro j h1 h2
  have := h j h1
  simpa [List.getD_eq_getElem?_getD, List.getElem?_eq_getElem h1, List.getElem?_eq_getElem h2] using this
theorem below_drewN {B : Nat} {w w' : World} (h : Below B w w') (n : Nat) : Below B w (w'.drewN n) := ⟨h.os, h.tape, h.output, h.size, h.block⟩
def ofBs (l : List Nat) : ByteArray := ⟨(l.map fun x => x.toUInt8).toArray⟩
theorem fold_push (l : List Nat) (acc : ByteArray) : (l.map fun x : Nat => (x : Int)).foldl (fun r n => r.push (UInt8.ofNat n.toNat)) acc = ⟨acc.data ++ (l.map fun x => x.toUInt8).toArray⟩ := by
  induction l generalizing acc with
  | nil => simp
  | cons x l ih =>
    simp only [List.map_cons, List.foldl_cons, ih, Int.toNat_natCast]
    have : (acc.push (UInt8.ofNat x)).data = acc.data.push (UInt8.ofNat x) := rfl
    rw [this]
    congr 1
    apply Array.toList_inj.1
    simp
theorem toNat8 {x : Nat} (h : x < 256) : x.toUInt8.toNat = x := by
  show x % 256 = x
  omega
theorem ofBs_inj {a b : List Nat} (ha : ∀ x ∈ a, x < 256) (hb : ∀ x ∈ b, x < 256) (h : ofBs a = ofBs b) : a = b := by
  have h1 : (a.map fun x => x.toUInt8) = (b.map fun x => x.toUInt8) := by
    have := congrArg (fun s : ByteArray => s.data.toList) h
    simpa [ofBs] using this
  have h2 := congrArg (List.map UInt8.toNat) h1
  simp only [List.map_map] at h2
  have e : ∀ l : List Nat, (∀ x ∈ l, x < 256) → l.map (UInt8.toNat ∘ fun x => x.toUInt8) = l := fun l hl => by
    conv => rhs; rw [← List.map_id l]
    apply List.map_congr_left
    intro x hx
    exact toNat8 (hl x hx)
  rwa [e a ha, e b hb] at h2
theorem str_ne {a b : List Nat} (ha : ∀ x ∈ a, x < 256) (hb : ∀ x ∈ b, x < 256) (h : a ≠ b) : ((ofBs a).toList == (ofBs b).toList) = false := by
  rw [beq_eq_false_iff_ne]
  intro e
  rw [ByteArray.toList_eq, ByteArray.toList_eq] at e
  exact h (ofBs_inj ha hb (Go.WideShapes.bytes_inj e))
theorem str_eq (a : ByteArray) : (a.toList == a.toList) = true := by simp
theorem conv_row {w : World} {v : Value} {l : List Nat} (h : Row8 w v l) : (convert 23 9 v).run Try.prog w = .ok (.string (ofBs l)) w := by
  obtain ⟨a, cap, rfl, hl, hx, hc⟩ := h
  by_cases hp : 0 < l.length
  · obtain ⟨g, o, rfl, hg, hd⟩ := hc hp
    have hld : (loadCells ⟨g, o, none⟩ l.length).run Try.prog w = .ok ((l.map fun x : Nat => (x : Int)).map (Value.int .u8)).toArray w := by
      have h2 := run_loadCells_list (P := Try.prog) w ⟨g, o, none⟩ (U8s l).toList (fun j v hv => by
        have hj : j < l.length := by have := (List.getElem?_eq_some_iff.1 hv).1; simpa [U8s] using this
        rw [Addr.add_mid, hd j hj, ← hv]
        simp [U8s, List.getD_eq_getElem?_getD, List.getElem?_eq_getElem hj])
      rw [Array.length_toList, U8s_size] at h2
      rw [h2]
      simp [U8s]
    rw [run_convert_bytes_string w 23 9 5 _ _ _ Try.underlying23 Try.underlying5 Try.underlying9, run_bytesToString w _ _ _ _ hld, fold_push]
    simp [ofBs]
  · have h0 : l = [] := List.eq_nil_of_length_eq_zero (by omega)
    subst h0
    cases a with
    | none => exact run_convert_bytes_string w 23 9 5 _ _ _ Try.underlying23 Try.underlying5 Try.underlying9
    | some a =>
      have hld : (loadCells a ([] : List Nat).length).run Try.prog w = .ok (([] : List Int).map (Value.int .u8)).toArray w := run_loadCells_list (P := Try.prog) w a [] (by simp)
      rw [run_convert_bytes_string w 23 9 5 _ _ _ Try.underlying23 Try.underlying5 Try.underlying9, run_bytesToString w _ _ _ _ hld]
      rfl
theorem refSame_any (v1 v2 : Value) (l1 l2 : List (List Nat)) (w : World) (h1 : Mat w v1 l1) (h2 : Mat w v2 l2) :
    Calls Try.prog 18 #[v1, v2] w fun e w' => e = .returned (.bool (decide (l1 = l2))) ∧ Below w.heap.size w w' := by
  obtain ⟨a1, c1, rfl, hl1, hc1⟩ := h1
  obtain ⟨a2, c2, rfl, hl2, hc2⟩ := h2
  by_cases hl : l1.length = l2.length
  · have HE : Hid (∀ j, j < l1.length → l1.getD j [] = l2.getD j []) → l1 = l2 := fun hh => ext_getD [] hl hh.out
    rw [← hl] at hc2 hl2 ⊢
    clear hl
    generalize hn : l1.length = n at *
    have e0 : ((n : Int) != (n : Int)) = false := by simp
    go_enter Try.func18, Try.ntmps18
    go_wp2_with fail
    go_loopw [5] (fun vi wr => ∃ k : Nat, k ≤ n ∧ vi = .int .i64 (k : Int) ∧ Hid (∀ j, j < k → l1.getD j [] = l2.getD j []) ∧ Below w.heap.size w wr) (fun vi _ => n - (intOf vi).toNat)
    case atStart => exact ⟨0, by omega, rfl, fun j hj => absurd hj (by omega), Below.refl _ _⟩
    case round =>
      obtain ⟨k, hk, rfl, hj, hb⟩ := hrel
      by_cases hlt : k < n
      · obtain ⟨g1, o1, rfl, hg1, hd1⟩ := hc1 (by omega)
        obtain ⟨g2, o2, rfl, hg2, hd2⟩ := hc2 (by omega)
        obtain ⟨r1, k1, hr1⟩ := hd1 k hlt
        obtain ⟨r2, k2, hr2⟩ := hd2 k hlt
        replace k1 := cell_below hb hg1 k1
        replace k2 := cell_below hb hg2 k2
        replace hr1 := hr1.below hb
        replace hr2 := hr2.below hb
        have d0 : (k : Int) < (n : Int) := by omega
        generalize hp1 : l1.getD k [] = p1 at *
        generalize hp2 : l2.getD k [] = p2 at *
        have x1 : Hid (∀ x ∈ p1, x < 256) := hr1.choose_spec.choose_spec.2.2.1
        have x2 : Hid (∀ x ∈ p2, x < 256) := hr2.choose_spec.choose_spec.2.2.1
        have HS : Hid (∀ W, Below wr.heap.size wr W → Below w.heap.size w W ∧ W.cell? ⟨g1, o1 + k, none⟩ = some r1 ∧ W.cell? ⟨g2, o2 + k, none⟩ = some r2 ∧ (convert 23 9 r1).run Try.prog W = .ok (.string (ofBs p1)) W ∧ (convert 23 9 r2).run Try.prog W = .ok (.string (ofBs p2)) W) := fun W hW =>
          ⟨belowCall hb hW, cell_below hW (Nat.lt_of_lt_of_le hg1 hb.size) k1, cell_below hW (Nat.lt_of_lt_of_le hg2 hb.size) k2, conv_row (hr1.below hW), conv_row (hr2.below hW)⟩
        have BR := Below.refl wr.heap.size wr
        clear hr1 hr2 k1 k2
        by_cases he : p1 = p2
        · obtain rfl := he
          go_wp2_with fail
          go_region_held3 (fun W => Below w.heap.size w W ∧ W.cell? ⟨g1, o1 + k, none⟩ = some r1 ∧ W.cell? ⟨g2, o2 + k, none⟩ = some r2 ∧ (convert 23 9 r1).run Try.prog W = .ok (.string (ofBs p1)) W ∧ (convert 23 9 r2).run Try.prog W = .ok (.string (ofBs p1)) W) (exact HS.out _ BR.drew) ((fail))
          go_wp2_with fail
          exact ⟨⟨k + 1, by omega, rfl, fun j hj' => by
            by_cases hjk : j < k
            · exact hj.out j hjk
            · obtain rfl : j = k := by omega
              rw [hp1, hp2], hb.drew⟩, by simp [intOf]; omega⟩
        · have e1 : ((ofBs p1).toList == (ofBs p2).toList) = false := str_ne x1.out x2.out he
          have hr : decide (l1 = l2) = false := by rw [decide_eq_false_iff_not]; rintro rfl; exact he (hp1.symm.trans hp2)
          go_wp2_with fail
          go_region_held3 (fun W => Below w.heap.size w W ∧ W.cell? ⟨g1, o1 + k, none⟩ = some r1 ∧ W.cell? ⟨g2, o2 + k, none⟩ = some r2 ∧ (convert 23 9 r1).run Try.prog W = .ok (.string (ofBs p1)) W ∧ (convert 23 9 r2).run Try.prog W = .ok (.string (ofBs p2)) W) (exact HS.out _ BR.drew) ((fail))
          go_wp2_with fail
          go_ret
          exact ⟨by rw [hr]; rfl, hb.drew⟩
      · obtain rfl : k = n := by omega
        have hr : decide (l1 = l2) = true := by rw [decide_eq_true_iff]; exact HE hj
        go_wp2_with fail
        go_ret
        exact ⟨by rw [hr]; rfl, hb⟩
  · have hr : decide (l1 = l2) = false := by rw [decide_eq_false_iff_not]; rintro rfl; exact hl rfl
    rw [hr]
    have e0 : ((l1.length : Int) != (l2.length : Int)) = true := by simp; omega
    go_enter Try.func18, Try.ntmps18
    go_wp2_with fail
    go_ret
    exact ⟨rfl, Below.refl _ _⟩
end Go.Proofs.Ytjgjcbgeekfkkaa
