/- The keys of a set, sorted. -/
import Derived.Test.YtknddbmnciodaaaGreatFresh
import Derived.Test.YtknddbmnciodaaaGreatLib
namespace Go.Proofs.YtknddbmnciodaaaGreat
open Go.RowKit Go.Lib Go.Sort Go.Shelf Go.Maps
open Ix
set_option linter.unusedVariables false
theorem sorts37 (m : Nat) : AnyZ.SortsIn Tryz.prog Tryz.sortedM_ren Fence.wide m :=
  ⟨fun blk off cap ss W hH hblk hsz => callsIn_wide.2 (AnyM.slices_Sort_string Tryz.sortM blk off cap ss W hH hblk hsz),
   fun p cap W => callsIn_wide.2 (AnyM.slices_Sort_string_none Tryz.sortM p cap W)⟩
theorem keys_any (mb : Option Nat) (W : World) : Calls Tryz.prog 38 #[.map mb] W fun e w' => e = .returned (.func (.func 60) #[] #[.pointer (some ⟨W.heap.size, 0, none⟩)]) ∧ w' = W.alloc (.cells #[.map mb] 74) :=
  (callsIn_wide (n := 5)).1 (AnyZ.keys_in Tryz.keysM Fence.wide 5 trivial rfl mb W)
set_option maxHeartbeats 1000000 in
theorem sortedKeys_any (b nn : Nat) (D0 : DataW Unit) (w : World) (hown : w.ownsMap Tryz.prog 9 unitElem b nn D0) (hmax : Maps.size D0 ≤ maxLen) (hbytes : Maps.size D0 * 16 ≤ 140737488355328) :
    Calls Tryz.prog 37 #[.func (.func 60) #[] #[.pointer (some ⟨w.heap.size, 0, none⟩)]] (w.alloc (.cells #[.map (some b)] 74)) fun e w' => ∃ (v : Value) (ss : List (List UInt8)), e = .returned v ∧ ss.Perm (strKeys D0) ∧
      w'.ownsRow (w.alloc (.cells #[.map (some b)] 74)).heap.size 9 1 v ss.length ((ss.mergeSort (fun x y => decide (x ≤ y))).map encStr) ∧ RowKit.Below (w.alloc (.cells #[.map (some b)] 74)).heap.size (w.alloc (.cells #[.map (some b)] 74)) w' := by
  have hbl := hown.lt
  have hseq : SeqGives Fence.wide 2 Tryz.prog 60 #[.pointer (some ⟨w.heap.size, 0, none⟩)] encStr (fun ss => ss.Perm (strKeys D0)) (Maps.size D0) (w.alloc (.cells #[.map (some b)] 74)) :=
    AnyZ.keys_gives (ρ := Tryz.keysM_ren) { Tryz.keysM with } Fence.wide _ trivial rfl (by omega) w.heap.size b nn D0 _ (by simp) (by simp) (by
      obtain ⟨es, clock, hb, Ft, hs, hD⟩ := hown
      exact ⟨es, clock, (RowKit.Below.heap_alloc _ _ b hbl).trans hb, Ft, hs, hD⟩)
  refine ((callsIn_wide (n := 5)).1 (AnyZ.sorted_in Tryz.sortedM Fence.wide 5 trivial trivial trivial trivial rfl (by omega) (sorts37 _) (enters_of Tryz.func59 (by kernel_rfl) rfl) 60 #[.pointer (some ⟨w.heap.size, 0, none⟩)] trivial (enters_of Tryz.func60 (by kernel_rfl) rfl) _ _ hmax hbytes _ hseq)).mono ?_
  rintro e w' ⟨v, ss, h1, h2, h3, _, h5⟩
  exact ⟨v, ss, h1, h2, h3, h5⟩
/-- .. of texts that are told, rising -/
theorem setKeys_any {w : World} {b : Nat} {l L : List ByteArray} (h : SMap w b l) (hL : RiseK L) (hm : ∀ s, s ∈ L ↔ s ∈ l) (hn : L.length ≤ 100000) :
    Calls Tryz.prog 37 #[.func (.func 60) #[] #[.pointer (some ⟨w.heap.size, 0, none⟩)]] (w.alloc (.cells #[.map (some b)] 74)) fun e w' => ∃ (v : Value), e = .returned v ∧ w'.ownsRow w.heap.size 9 1 v L.length (L.map Value.string) ∧ RowKit.Below w.heap.size w w' := by
  obtain ⟨D, k, hk, hown, ⟨es, hD⟩, hhas⟩ := h
  have hp : (L.map fun s => s.data.toList).Perm (strKeys D) := by
    obtain ⟨es1, hD1, hpw, _⟩ := hown.entries key9
    obtain ⟨es2, hD2, hko⟩ := hown.keysOf
    obtain rfl : es1 = es2 := by rw [hD1] at hD2; simpa using hD2
    rw [hD1]
    refine perm_strKeys hpw (fun p hp => by obtain ⟨v, hv⟩ := hko p hp; obtain ⟨x, _, hx, _⟩ := Maps.keyOf_str Tryz.underlying9 hv; exact ⟨x, hx⟩) ?_ fun x => ?_
    · refine List.pairwise_map.2 (hL.imp fun {a b} h e => lt_ne h (ba_ext e))
    · have hx := hhas ⟨x.toArray⟩
      rw [hD1] at hx
      have e1 : (⟨x.toArray⟩ : ByteArray).data.toList = x := by simp
      rw [e1] at hx
      rw [hx, inC_iff, List.mem_map]
      constructor
      · rintro ⟨s, hs, rfl⟩
        have : (⟨s.data.toList.toArray⟩ : ByteArray) = s := ba_ext (by simp)
        rw [this]; exact (hm s).1 hs
      · intro hx
        exact ⟨_, (hm _).2 hx, by simp⟩
  have hsz : Maps.size D = L.length := by
    have h1 := hp.length_eq
    rw [List.length_map] at h1
    rw [h1, hD]
    show es.length = (es.map _).length
    rw [List.length_map]
  have hsort : ((L.map fun s => s.data.toList).mergeSort (fun x y => decide (x ≤ y))) = L.map fun s => s.data.toList := by
    refine List.mergeSort_of_pairwise (List.pairwise_map.2 (hL.imp fun {p q} hpq => ?_))
    simp only [lt, decide_eq_true_eq] at hpq ⊢
    exact List.le_of_lt hpq
  refine (sortedKeys_any b k D w hown (by rw [hsz]; unfold maxLen; omega) (by rw [hsz]; omega)).mono ?_
  rintro e w' ⟨v, ss, rfl, hS, hrow, hb⟩
  have e2 : ss.mergeSort (fun x y => decide (x ≤ y)) = (L.map fun s => s.data.toList).mergeSort (fun x y => decide (x ≤ y)) := mergeSort_of_perm (hS.trans hp.symm)
  have e3 : ss.length = L.length := by rw [hS.length_eq, ← hp.length_eq, List.length_map]
  rw [e2, hsort, e3, List.map_map] at hrow
  exact ⟨v, rfl, own_mono hrow (by simp), ((RowKit.Below.refl _ w).alloc (Nat.le_refl _) _).trans (hb.mono (by simp))⟩
end Go.Proofs.YtknddbmnciodaaaGreat

