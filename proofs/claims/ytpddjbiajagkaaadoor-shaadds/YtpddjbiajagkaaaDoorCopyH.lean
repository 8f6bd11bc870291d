/- The contract of Copy: a hash of its own with the same bytes added; of what was there nothing changes. -/
import Derived.Test.YtpddjbiajagkaaaDoorHSum
import Derived.Test.YtpddjbiajagkaaaDoorMany
namespace Go.Proofs.YtpddjbiajagkaaaDoor
open Go.RowKit
set_option maxRecDepth 20000 in
set_option maxHeartbeats 1000000 in
theorem copy_any (w : World) (b : Nat) (l : List Nat) (h : IsHash w b l) :
    Calls Tryd.prog 16 #[.pointer (some ⟨b, 0, none⟩)] w fun e w' => ∃ nb, e = .returned (.pointer (some ⟨nb, 0, none⟩)) ∧ w.heap.size ≤ nb ∧ IsHash w' nb l ∧ Below w.heap.size w w' := by
  obtain ⟨rv, h1, h2⟩ := h
  have hbw := h1.lt
  have h2k := h2
  obtain ⟨sp, rfl, hsp⟩ := h2
  have Hsp : Hid _ := hsp
  clear hsp
  have hll : (Sha.left l).length < 64 := by rw [Sha.left_length]; omega
  have hmk := makes_bytes (Sha.left l).length (by omega)
  have c8 : w.cell? ⟨b, 8, none⟩ = some (.slice sp (Sha.left l).length (Sha.left l).length) := h1.cell 8
  have hsz1 : Hid ((Tryd.prog.info? 5).map (·.size) = some 1) := by unfold Hid; kernel_rfl
  have hLb : Hid (Has w b (hashCells (Sha.eat Sha.init l) (.slice sp (Sha.left l).length (Sha.left l).length) l.length) 44) := h1
  generalize hr : Sha.left l = r at *
  have HR : Hid _ := hr
  clear hr
  have HG : Hid ((w.alloc (.cells (U8s (List.replicate r.length 0)) 5)).heap[w.heap.size]? = some (.cells (U8s (List.replicate r.length 0)).toList.toArray 5 (0, 0))) := Has.new w w.heap.size _ 5 rfl
  have Hpos : Hid (∀ o, 0 < (U8s r).toList.length → some (⟨w.heap.size, 0, none⟩ : Addr) = some ⟨w.heap.size, 0, none⟩ ∧ ∃ ad, sp = some ad ∧ ∀ j v, (U8s r).toList[j]? = some v → (w.alloc o).cell? (ad.add j) = some v) := by
    intro o hp
    obtain ⟨rb, cs, t, g1, g2, g3, g4, _⟩ := Hsp.out (by simpa [U8s] using hp)
    refine ⟨rfl, ⟨rb, 0, none⟩, g1, fun j v hj => ?_⟩
    rw [Addr.add_mid, Nat.zero_add, (g2.alloc o).cell]
    rw [← g4] at hj
    simp only [U8s, List.map_take, List.getElem?_toArray] at hj ⊢
    rw [List.getElem?_take] at hj
    split at hj
    · exact hj
    · simp at hj
  have Hn : Hid ((U8s r).toList.length = Nat.min r.length r.length) := by
    unfold Hid; rw [Array.length_toList, U8s_size]; exact (Nat.min_self _).symm
  have Hfit : Hid (0 + (U8s r).toList.length ≤ (U8s (List.replicate r.length 0)).toList.length) := by
    unfold Hid; simp [U8s]
  have Hone : Hid (∀ v ∈ (U8s r).toList, v.oneCell' = true) := U8s_one r
  go_enter Tryd.func16, Tryd.ntmps16
  go_wp2_with (refine wpList_copy_splice rfl (.tmp 12) (.tmp 16) 42 42 rfl 5 Tryd.underlying42 hsz1.out _ _ r.length r.length r.length r.length rfl rfl w.heap.size 0 _ 5 HG.out (U8s r).toList Hn.out (Hpos.out _) Hfit.out Hone.out w.heap.size _ (Below.refl _ _) (Nat.le_refl _) ?_; intro W hW hbW)
  have hWh : Has W w.heap.size (U8s r) 5 := by
    have h := hW.out
    have e : (splice (U8s (List.replicate r.length 0)).toList 0 (U8s r).toList).toArray = U8s r := by
      rw [splice_zero]; simp
    rw [e] at h; exact h
  have hB : Below w.heap.size w W := (belowAlloc (Below.refl _ _) _).trans hbW
  clear hW hbW HG Hpos Hn Hfit Hone hmk
  have HT : Hid (∃ t, t = Sha.eat Sha.init l) := ⟨_, rfl⟩
  generalize ht : Sha.eat Sha.init l = t at *
  have HTe : Hid _ := ht
  clear ht HT
  go_region_held3 (fun W' => Below w.heap.size w W' ∧ W'.cell? ⟨b, 0, none⟩ = some (.int .u32 (t.a : Int)) ∧ W'.cell? ⟨b, 1, none⟩ = some (.int .u32 (t.b : Int)) ∧ W'.cell? ⟨b, 2, none⟩ = some (.int .u32 (t.c : Int)) ∧ W'.cell? ⟨b, 3, none⟩ = some (.int .u32 (t.d : Int)) ∧ W'.cell? ⟨b, 4, none⟩ = some (.int .u32 (t.e : Int)) ∧ W'.cell? ⟨b, 5, none⟩ = some (.int .u32 (t.f : Int)) ∧ W'.cell? ⟨b, 6, none⟩ = some (.int .u32 (t.g : Int)) ∧ W'.cell? ⟨b, 7, none⟩ = some (.int .u32 (t.h : Int)) ∧ W'.cell? ⟨b, 8, none⟩ = some (.slice sp r.length r.length) ∧ W'.cell? ⟨b, 9, none⟩ = some (.int .i64 (l.length : Int))) ((refine hashAll hLb.out ?_; first | exact hB.drew | exact (belowAlloc hB _).drew)) (fail)
  all_goals go_wp2
  all_goals go_light
  all_goals go_ret
  all_goals refine ⟨W.heap.size, rfl, hB.size, ⟨.slice (some ⟨w.heap.size, 0, none⟩) r.length r.length, ?_, ?_⟩, (belowAlloc hB _).drew⟩
  · rw [HTe.out]
    exact (Has.new W W.heap.size _ 44 rfl).drew
  · rw [HR.out]
    exact ⟨_, rfl, fun _ => ⟨w.heap.size, r, 5, rfl, (hWh.alloc _).drew, Nat.le_refl _, List.take_of_length_le (Nat.le_refl _), by decide⟩⟩
end Go.Proofs.YtpddjbiajagkaaaDoor
