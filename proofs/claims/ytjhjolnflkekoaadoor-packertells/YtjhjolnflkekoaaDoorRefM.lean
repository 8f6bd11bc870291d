/- The contract of the document's Make. -/
import Derived.Test.YtjhjolnflkekoaaDoorRef
namespace Go.Proofs.YtjhjolnflkekoaaDoor
open Go.RowKit Go.Maps
open Pk
set_option linter.unusedVariables false
theorem refMake_no (l : List ByteArray) (A : Option Addr) (cap : Nat) (w : World) (h : Tx w A l) (hl : l.length ≤ 1000000) (ht : tot l ≤ 100000000) (hM : ¬ May (l.map bs)) :
    Calls Tryd.prog 31 #[.slice A l.length cap] w fun e w' => e = .returned (.tuple #[.string ⟨#[]⟩, .slice none 0 0, .int .i64 4]) ∧ Below w.heap.size w w' := by
  have C1 := refMay_any l A cap w h hl ht
  rw [mayB_no hM] at C1
  clear h ht hM
  generalize l.length = n at *
  go_enter Tryd.func31, Tryd.ntmps31
  go_wp2_with fail
  refine C1.mono ?_
  rintro e w1 ⟨rfl, b1⟩
  go_wp2_with fail
  exact ret3 Tryd.results31 rfl rfl rfl rfl ⟨rfl, b1⟩
theorem may_tot {l : List ByteArray} (hM : May (l.map bs)) : l.length ≤ 4096 ∧ tot l ≤ 16384 := by
  have h1 := hM.most
  refine ⟨by rw [List.length_map] at h1; exact h1, ?_⟩
  rcases hM.room with e | e
  · rw [List.length_map] at e
    match l, e with
    | [s], _ =>
      have := (hM.each (bs s) (by simp)).2
      rw [tot_cons, ← bs_length]; show _ + 0 ≤ _; omega
  · unfold tot; omega
theorem hd_add (l : List ByteArray) (k : Nat) (h : k < l.length) : ofBs (hd l k) ++ ofBs (n2 (l.getD k ⟨#[]⟩).size) = ofBs (hd l (k + 1)) := by rw [hd_next l k h, ofBs_append]
theorem bl_add (l : List ByteArray) (k : Nat) (h : k < l.length) : ofBs (bl l k) ++ l.getD k ⟨#[]⟩ = ofBs (bl l (k + 1)) := by rw [bl_next l k h, ofBs_append, ofBs_bs]
theorem bl_size (l : List ByteArray) (k : Nat) : (ofBs (bl l k)).size = 6 + 2 * l.length + tot (l.take k) := by rw [ofBs_size, bl_len]
theorem take_next' (z : List Nat) (k : Nat) (h : k < z.length) : z.take (k + 1) = z.take k ++ [z.getD k 0] := by
  rw [List.take_succ_eq_append_getElem h, List.getD_eq_getElem?_getD, List.getElem?_eq_getElem h]; rfl
set_option maxRecDepth 20000 in
set_option maxHeartbeats 4000000 in
theorem refMake_yes (l : List ByteArray) (A : Option Addr) (cap : Nat) (w : World) (h : Tx w A l) (hM : May (l.map bs)) :
    Calls Tryd.prog 31 #[.slice A l.length cap] w fun e w' => ∃ B cb, e = .returned (.tuple #[.string (ofBs (blob (l.map bs))), .slice B l.length cb, .int .i64 0]) ∧ Is w' B (at' (l.map bs)) ∧ Below w.heap.size w w' := by
  obtain ⟨h1, h2⟩ := may_tot hM
  obtain ⟨i0, hi, hz0, hz1, hz2⟩ := info_parts (show (Tryd.prog.info? 3).map (fun i => (i.zero, i.size, i.bytes)) = some (some (.int .i64 0), 1, 8) by kernel_rfl)
  have C1 := fun W (h : Tx W A l) => refMay_any l A cap W h (by omega) (by omega)
  rw [mayB_yes hM] at C1
  have HHZ := hid (congrArg ofBs (hd_zero l))
  rw [ofBs_append] at HHZ
  have HHA := hid (congrArg ofBs ((hd_all l).trans (bl_zero l).symm))
  have HBA := hid (congrArg ofBs (bl_all l))
  have HAT := hid (fun k => at_get l k)
  have HAL := hid (at_len l)
  obtain ⟨z, hz⟩ : ∃ z, z = at' (l.map bs) := ⟨_, rfl⟩
  rw [← hz] at HAT HAL ⊢
  obtain ⟨n, hn⟩ : ∃ n, n = l.length := ⟨_, rfl⟩
  have HN := hid hn
  have HL := hid h
  have HT := hid h2
  have hhl := hid (fun k => hd_len l k)
  have hbz := hid (fun k => bl_size l k)
  rw [← hn] at h1 C1 HHZ HHA HBA HAT HAL hhl hbz ⊢
  have hp : (⟨#[112, 97, 107, 49]⟩ : ByteArray) = ofBs pak1 := by decide
  have hps : (⟨#[112, 97, 107, 49]⟩ : ByteArray) ++ ofBs (n2 n) = ofBs (hd l 0) := by rw [hp]; exact HHZ.out.symm
  have hns : ¬ (9223372036854775807 : Int) < ((⟨#[112, 97, 107, 49]⟩ : ByteArray).size : Int) + ((ofBs (n2 n)).size : Int) := by rw [ofBs_size, n2_len]; show ¬ _ < ((4 : Nat) : Int) + _; omega
  clear hn h hM h2 hz hp HHZ
  go_enter Tryd.func31, Tryd.ntmps31
  go_wp2_with fail
  refine (C1 _ HL.out).mono ?_
  rintro e w1 ⟨rfl, b1⟩
  have B1 := hid b1
  clear b1
  go_wp2_with fail
  refine (refNumber_any n (by omega) _).mono ?_
  rintro e w2 ⟨rfl, b2⟩
  have B2 := hid (B1.out.trans (b2.mono B1.out.size))
  clear b2 B1 C1
  go_wp2_with fail
  go_loopw [5, 6] (fun v5 v6 wr => ∃ k : Nat, k ≤ n ∧ v6 = .int .i64 (k : Int) ∧ v5 = .string (ofBs (hd l k)) ∧ Below w.heap.size w wr) (fun _ v6 _ => n - (intOf v6).toNat)
  case atStart => exact ⟨0, Nat.zero_le _, rfl, rfl, B2.out⟩
  case round =>
    clear B2 hps hns
    obtain ⟨k, hk, rfl, rfl, hB⟩ := hrel
    by_cases hlt : k < n
    · have hkl : k < l.length := by rw [← HN.out]; exact hlt
      obtain ⟨g, o, rfl, hg, c0⟩ := tx_cell HL.out hB hkl
      have hs : (l.getD k ⟨#[]⟩).size < 65536 := by have := tot_le (getD_mem hkl); have := HT.out; omega
      have hadd := hd_add l k hkl
      have hns : ¬ (9223372036854775807 : Int) < ((ofBs (hd l k)).size : Int) + ((ofBs (n2 (l.getD k ⟨#[]⟩).size)).size : Int) := by
        rw [ofBs_size, ofBs_size, n2_len]; have := hhl.out k; omega
      generalize l.getD k ⟨#[]⟩ = s at *
      obtain ⟨S1, hS1⟩ : ∃ S1, S1 = ofBs (hd l (k + 1)) := ⟨_, rfl⟩
      have HS1 := hid hS1
      rw [← hS1] at hadd
      clear hS1
      generalize ofBs (hd l k) = S0 at *
      have i1 : (k : Int) < (n : Int) := by omega
      have wk : IntKind.i64.wrap ((k : Int) + 1) = ((k + 1 : Nat) : Int) := by rw [IntKind.wrap_i64]; omega
      have HB := hid hB
      clear hB
      go_wp2_with fail
      refine (refNumber_any s.size hs _).mono ?_
      rintro e w3 ⟨rfl, b3⟩
      have B3 := hid (HB.out.trans (b3.mono HB.out.size))
      clear b3 HB
      go_wp2_with fail
      go_roundw
      case rel => exact ⟨k + 1, by omega, by rfl, by rw [← HS1.out], B3.out⟩
      case measure => first | (simp [intOf]; done) | (simp [intOf]; omega)
    · obtain rfl : k = n := by omega
      have q1 : ¬ ((k : Int) < (k : Int)) := by omega
      rw [HHA.out]
      have HB := hid hB
      clear hB
      go_wp2_with fail
      go_loopw [5, 7, 8] (fun v5 v7 v8 wr => ∃ j : Nat, j ≤ k ∧ v8 = .int .i64 (j : Int) ∧ v5 = .string (ofBs (bl l j)) ∧ wr.ownsRow w.heap.size 3 1 v7 j ((z.take j).map nI) ∧ Below w.heap.size w wr) (fun _ _ v8 _ => k - (intOf v8).toNat)
      case atStart => exact ⟨0, Nat.zero_le _, rfl, rfl, World.ownsRow_nil _ _ _ _, HB.out⟩
      case round =>
        clear HB
        obtain ⟨j, hj, rfl, rfl, hrow, hB⟩ := hrel
        by_cases hlt : j < k
        · have hkl : j < l.length := by rw [← HN.out]; exact hlt
          obtain ⟨g, o, rfl, hg, c0⟩ := tx_cell HL.out hB hkl
          have hadd := bl_add l j hkl
          have hb1 := hbz.out j
          have htl := tot_take_le l j
          have hsl := tot_le (getD_mem hkl)
          have hTT := HT.out
          have hns : ¬ (9223372036854775807 : Int) < ((ofBs (bl l j)).size : Int) + ((l.getD j ⟨#[]⟩).size : Int) := by omega
          have HSZ : Hid (z.take (j + 1) = z.take j ++ [(ofBs (bl l j)).size]) := hid (by
            rw [take_next' z j (by rw [HAL.out]; exact hlt), HAT.out j hlt, hb1])
          generalize l.getD j ⟨#[]⟩ = s at *
          obtain ⟨S1, hS1⟩ : ∃ S1, S1 = ofBs (bl l (j + 1)) := ⟨_, rfl⟩
          have HS1 := hid hS1
          rw [← hS1] at hadd
          clear hS1
          generalize ofBs (bl l j) = S0 at *
          have i1 : (j : Int) < (k : Int) := by omega
          have wk : IntKind.i64.wrap ((j : Int) + 1) = ((j + 1 : Nat) : Int) := by rw [IntKind.wrap_i64]; omega
          have hml : j + 1 ≤ maxLen := by unfold maxLen; omega
          have hS0 : S0.size ≤ 1000000 := by omega
          clear hb1 htl hsl hTT
          generalize u7 = v7 at *
          go_wp2_with (at_builtin; refine wpList_append_own _ rfl _ _ 43 rfl w.heap.size 3 i0 (.int .i64 0) 1 8 Tryd.underlying43 hi hz0 hz1 hz2 rfl (by decide) v7 j _ rfl (hrow.alloc _) ⟨wr.heap.size, 0, none⟩ 1 1 [.int .i64 (S0.size : Int)] rfl rfl (cell_one_new _ _ _) (by simp [Value.oneCell']) (by omega) (by omega) (by have := hB.size; simp; omega) ?_; intro v' w2 hown' hgrow _; have hB2 : Below w.heap.size w w2 := (hB.alloc hB.size _).grown hgrow (by have := hB.size; simp; omega) (fun j hj => (hrow.lt j hj).1); have c1 : w2.cell? ⟨g, o + j, none⟩ = some (.string s) := by { rw [hB2.cell (p := ⟨g, o + j, none⟩) hg, ← hB.cell (p := ⟨g, o + j, none⟩) hg]; exact c0 })
          go_roundw
          case rel => exact ⟨j + 1, by omega, by rfl, by rw [← HS1.out], by rw [HSZ.out, List.map_append]; exact hown', hB2⟩
          case measure => first | (simp [intOf]; done) | (simp [intOf]; omega)
        · obtain rfl : j = k := by omega
          have q1 : ¬ ((j : Int) < (j : Int)) := by omega
          have e : z.take j = z := List.take_of_length_le (by rw [HAL.out]; exact Nat.le_refl _)
          rw [e] at hrow
          rw [HBA.out]
          obtain ⟨B, cb, hv, hnz, hIs⟩ := row_is hrow
          rw [HAL.out] at hv
          have HIS := hid hIs
          have HV := hid hv
          clear hrow hIs hv hnz e
          go_wp2_with fail
          exact ret3 Tryd.results31 rfl HV.out rfl rfl ⟨B, ⟨cb, rfl⟩, HIS.out, hB⟩
end Go.Proofs.YtjhjolnflkekoaaDoor
