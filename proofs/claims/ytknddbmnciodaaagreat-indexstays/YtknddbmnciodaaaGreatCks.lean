/- The contract of the program's chunksOf. -/
import Derived.Test.YtknddbmnciodaaaGreatMk
import Derived.Test.YtknddbmnciodaaaGreatFun
import Derived.Test.YtknddbmnciodaaaGreatRet
namespace Go.Proofs.YtknddbmnciodaaaGreat
open Go.RowKit
open Ix
set_option linter.unusedVariables false
theorem below_drew {B : Nat} {w w' : World} (h : Below B w w') : Below B w w'.drew := ⟨h.os, h.tape, h.output, h.size, h.block⟩
theorem kC_cells {W : World} {b : Nat} {L : List En} {t : TypeId} (h : Has W b (kC L) t) (k : Nat) (hk : k < L.length) :
    W.cell? ⟨b, k * 4, none⟩ = some (.string (L.getD k k0).1) ∧ W.cell? ⟨b, k * 4 + 1, none⟩ = some (.string (L.getD k k0).2.pack) ∧ W.cell? ⟨b, k * 4 + 2, none⟩ = some (.int .i64 (L.getD k k0).2.at_) ∧ W.cell? ⟨b, k * 4 + 3, none⟩ = some (.int .i64 (L.getD k k0).2.len) := by
  have f := flat_get ck4 4 (fun _ => rfl) L k _ (get_of k0 hk)
  refine ⟨?_, ?_, ?_, ?_⟩
  · rw [h.cell]; unfold kC; rw [List.getElem?_toArray]; exact f 0 _ rfl
  · rw [h.cell]; unfold kC; rw [List.getElem?_toArray]; exact f 1 _ rfl
  · rw [h.cell]; unfold kC; rw [List.getElem?_toArray]; exact f 2 _ rfl
  · rw [h.cell]; unfold kC; rw [List.getElem?_toArray]; exact f 3 _ rfl
theorem kC_put {W : World} {b : Nat} {L : List En} {t : TypeId} (h : Has W b (kC L) t) (k : Nat) (hk : k < L.length) (y : En) :
    Has ((((W.setCell ⟨b, k * 4, none⟩ (.string y.1)).setCell ⟨b, k * 4 + 1, none⟩ (.string y.2.pack)).setCell ⟨b, k * 4 + 2, none⟩ (.int .i64 y.2.at_)).setCell ⟨b, k * 4 + 3, none⟩ (.int .i64 y.2.len)) b (kC (L.set k y)) t :=
  has_set3 ck4 4 (fun _ => rfl) h hk y
theorem zip_len (C : List ByteArray) (P : List Pl) (h : C.length ≤ P.length) : (C.zip P).length = C.length := by rw [List.length_zip]; omega
set_option maxHeartbeats 8000000 in
theorem chunksOf_any (C : List ByteArray) (P : List Pl) (A B : Option Addr) (c c' : Nat) (hl : C.length ≤ P.length) (hn : C.length ≤ 100000) (w : World) (hC : Tx w A C) (hP : Ps w B P) :
    Calls Tryz.prog 21 #[.slice A C.length c, .slice B P.length c'] w fun e w' => e = .returned (.slice (some ⟨w.heap.size, 0, none⟩) C.length C.length) ∧ Has w' w.heap.size (kC (C.zip P)) 61 ∧ Below w.heap.size w w' := by
  have mk := makes_chunks C.length (by omega) w
  obtain ⟨w1, hw1⟩ : ∃ w1, w1 = w.alloc (.cells (kC (List.replicate C.length k0)) 61) := ⟨_, rfl⟩
  have hB : Below w.heap.size w w1 := by rw [hw1]; exact (Below.refl _ w).alloc (Nat.le_refl _) _
  have n1 : Has w1 w.heap.size (kC (List.replicate C.length k0)) 61 := by rw [hw1]; exact Has.new w _ _ _ rfl
  rw [← hw1] at mk
  clear hw1
  obtain ⟨L, hL⟩ : ∃ L, L = C.zip P := ⟨_, rfl⟩
  have hLl : L.length = C.length := by rw [hL]; exact zip_len C P hl
  have hget : ∀ k, k < C.length → L[k]? = some (C.getD k ⟨#[]⟩, P.getD k default) := fun k hk => by rw [hL]; exact zip_get hk (by omega)
  rw [← hL]
  have e0 : List.replicate C.length k0 = upTo L k0 0 := by rw [upTo_zero, hLl]
  rw [e0] at n1
  have HC := hid hC
  have HP := hid hP
  have HG := hid hget
  have HL := hid hl
  have HLL := hid hLl
  clear hL hC hP hget e0 hl hLl
  generalize hm : C.length = m at *
  have HM := hid hm
  clear hm
  go_enter Tryz.func21, Tryz.ntmps21
  go_wp2_with fail
  go_loopw [12] (fun v12 wr => ∃ k : Nat, k ≤ m ∧ v12 = .int .i64 (k : Int) ∧ Hid (Has wr w.heap.size (kC (upTo L k0 k)) 61) ∧ Hid (Below w.heap.size w wr)) (fun v12 _ => m - (intOf v12).toNat)
  case atStart => exact ⟨0, Nat.zero_le _, rfl, hid n1, hid hB⟩
  case round =>
    obtain ⟨k, hk, rfl, HK, HB⟩ := hrel
    clear mk n1 hB
    by_cases hlt : k < m
    · have hlt1 : k < C.length := by rw [HM.out]; exact hlt
      have hlt2 : k < P.length := by have := HL.out; omega
      have j1 : (k : Int) < (m : Int) := by omega
      have j2 : (k : Int) < (P.length : Int) := by omega
      have j0 : (0 : Int) ≤ (k : Int) := by omega
      have wk : IntKind.i64.wrap ((k : Int) + 1) = ((k + 1 : Nat) : Int) := by rw [IntKind.wrap_i64]; omega
      obtain ⟨g, o, rfl, hg, hc⟩ := tx_cell HC.out HB.out hlt1
      obtain ⟨g', o', rfl, hg', a1, a2, a3⟩ := ps_cell HP.out HB.out hlt2
      have hul : (upTo L k0 k).length = m := by rw [upTo_len _ _ _ (by rw [HLL.out]; exact hk), HLL.out]
      obtain ⟨b1, b2, b3, b4⟩ := kC_cells HK.out k (by rw [hul]; exact hlt)
      have f1 := HK.out.frozen (k * 4)
      have f2 := HK.out.frozen (k * 4 + 1)
      have f3 := HK.out.frozen (k * 4 + 2)
      have f4 := HK.out.frozen (k * 4 + 3)
      have HN : Hid (Has ((((wr.setCell ⟨w.heap.size, k * 4, none⟩ (.string (C.getD k ⟨#[]⟩))).setCell ⟨w.heap.size, k * 4 + 1, none⟩ (.string (P.getD k default).pack)).setCell ⟨w.heap.size, k * 4 + 2, none⟩ (.int .i64 (P.getD k default).at_)).setCell ⟨w.heap.size, k * 4 + 3, none⟩ (.int .i64 (P.getD k default).len)) w.heap.size (kC (upTo L k0 (k + 1))) 61) := hid (by
        have := kC_put HK.out k (by rw [hul]; exact hlt) (C.getD k ⟨#[]⟩, P.getD k default)
        rw [upTo_set _ _ _ _ (by rw [HLL.out]; exact hlt) (HG.out k hlt)] at this
        exact this)
      clear hul
      generalize C.getD k ⟨#[]⟩ = x at *
      generalize (P.getD k default).pack = y at *
      generalize (P.getD k default).at_ = a at *
      generalize (P.getD k default).len = l at *
      generalize P.length = pn at *
      go_wp2_with fail
      go_region
      go_wp2_with fail
      go_roundw
      case rel => exact ⟨k + 1, by omega, by rfl, HN, hid (below_drew (below_set (below_set (below_set (below_set HB.out (Nat.le_refl _) _) (Nat.le_refl _) _) (Nat.le_refl _) _) (Nat.le_refl _) _))⟩
      case measure => first | (simp [intOf]; done) | (simp [intOf]; omega)
    · obtain rfl : m = k := by omega
      have j1 : ¬ ((m : Int) < (m : Int)) := by omega
      go_wp2_with fail
      go_ret
      exact ⟨rfl, by have := HK.out; rwa [← HLL.out, upTo_all] at this, HB.out⟩
end Go.Proofs.YtknddbmnciodaaaGreat

