/- Rows as strings; the document's Same. -/
import Derived.Test.YtfbjpgcgdhhfnaaMat
import Derived.Laws.BytesString
import Derived.Laws.Strings
import Derived.WideShapes
namespace Go.Proofs.Ytfbjpgcgdhhfnaa
open Go.RowKit
theorem ext_getD {α : Type} {l1 l2 : List α} (d : α) (hl : l1.length = l2.length) (h : ∀ j, j < l1.length → l1.getD j d = l2.getD j d) : l1 = l2 := by
  apply List.ext_getElem hl
  intro j h1 h2
  have := h j h1
  simpa [List.getD_eq_getElem?_getD, List.getElem?_eq_getElem h1, List.getElem?_eq_getElem h2] using this
theorem below_drewN {B : Nat} {w w' : World} (h : Below B w w') (n : Nat) : Below B w (w'.drewN n) := ⟨h.os, h.tape, h.output, h.size, h.block⟩
def ofBs (l : List Nat) : ByteArray := ⟨(l.map fun x => x.toUInt8).toArray⟩
theorem fold_push (l : List Nat) (acc : ByteArray) : (l.map fun x : Nat => (x : Int)).foldl (fun r n => r.push (UInt8.ofNat n.toNat)) acc = ⟨acc.data ++ (l.map fun x => x.toUInt8).toArray⟩ := by
  induction l generalizing acc with
  | nil => simp
  | cons x l ih =>
    simp only [List.map_cons, List.foldl_cons, ih, Int.toNat_natCast]
    have : (acc.push (UInt8.ofNat x)).data = acc.data.push (UInt8.ofNat x) := rfl
    rw [this]
    congr 1
    apply Array.toList_inj.1
    simp
theorem toNat8 {x : Nat} (h : x < 256) : x.toUInt8.toNat = x := by
  show x % 256 = x
  omega
theorem ofBs_inj {a b : List Nat} (ha : ∀ x ∈ a, x < 256) (hb : ∀ x ∈ b, x < 256) (h : ofBs a = ofBs b) : a = b := by
  have h1 : (a.map fun x => x.toUInt8) = (b.map fun x => x.toUInt8) := by
    have := congrArg (fun s : ByteArray => s.data.toList) h
    simpa [ofBs] using this
  have h2 := congrArg (List.map UInt8.toNat) h1
  simp only [List.map_map] at h2
  have e : ∀ l : List Nat, (∀ x ∈ l, x < 256) → l.map (UInt8.toNat ∘ fun x => x.toUInt8) = l := fun l hl => by
    conv => rhs; rw [← List.map_id l]
    apply List.map_congr_left
    intro x hx
    exact toNat8 (hl x hx)
  rwa [e a ha, e b hb] at h2
theorem str_ne {a b : List Nat} (ha : ∀ x ∈ a, x < 256) (hb : ∀ x ∈ b, x < 256) (h : a ≠ b) : ((ofBs a).toList == (ofBs b).toList) = false := by
  rw [beq_eq_false_iff_ne]
  intro e
  rw [ByteArray.toList_eq, ByteArray.toList_eq] at e
  exact h (ofBs_inj ha hb (Go.WideShapes.bytes_inj e))
theorem str_eq (a : ByteArray) : (a.toList == a.toList) = true := by simp
theorem conv_row {w : World} {v : Value} {l : List Nat} (h : Row8 w v l) : (convert 31 9 v).run Try.prog w = .ok (.string (ofBs l)) w := by
  obtain ⟨a, cap, rfl, hl, hx, hc⟩ := h
  by_cases hp : 0 < l.length
  · obtain ⟨g, o, rfl, hg, hd⟩ := hc hp
    have hld : (loadCells ⟨g, o, none⟩ l.length).run Try.prog w = .ok ((l.map fun x : Nat => (x : Int)).map (Value.int .u8)).toArray w := by
      have h2 := run_loadCells_list (P := Try.prog) w ⟨g, o, none⟩ (U8s l).toList (fun j v hv => by
        have hj : j < l.length := by have := (List.getElem?_eq_some_iff.1 hv).1; simpa [U8s] using this
        rw [Addr.add_mid, hd j hj, ← hv]
        simp [U8s, List.getD_eq_getElem?_getD, List.getElem?_eq_getElem hj])
      rw [Array.length_toList, U8s_size] at h2
      rw [h2]
      simp [U8s]
    rw [run_convert_bytes_string w 31 9 5 _ _ _ Try.underlying31 Try.underlying5 Try.underlying9, run_bytesToString w _ _ _ _ hld, fold_push]
    simp [ofBs]
  · have h0 : l = [] := List.eq_nil_of_length_eq_zero (by omega)
    subst h0
    cases a with
    | none => exact run_convert_bytes_string w 31 9 5 _ _ _ Try.underlying31 Try.underlying5 Try.underlying9
    | some a =>
      have hld : (loadCells a ([] : List Nat).length).run Try.prog w = .ok (([] : List Int).map (Value.int .u8)).toArray w := run_loadCells_list (P := Try.prog) w a [] (by simp)
      rw [run_convert_bytes_string w 31 9 5 _ _ _ Try.underlying31 Try.underlying5 Try.underlying9, run_bytesToString w _ _ _ _ hld]
      rfl
end Go.Proofs.Ytfbjpgcgdhhfnaa
