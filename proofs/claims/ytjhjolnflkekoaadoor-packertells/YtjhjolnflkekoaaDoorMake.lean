/- The contracts of written, places and Make. -/
import Derived.Test.YtjhjolnflkekoaaDoorMay
namespace Go.Proofs.YtjhjolnflkekoaaDoor
open Go.RowKit Go.Maps
open Pk
set_option linter.unusedVariables false
/-- the blob's first bytes, with the sizes of the first k -/
def hd (l : List ByteArray) (k : Nat) : List Nat := pak1 ++ n2 l.length ++ ((l.take k).map bs).flatMap fun x => n2 x.length
theorem hd_zero (l : List ByteArray) : hd l 0 = pak1 ++ n2 l.length := by simp [hd]
theorem hd_next (l : List ByteArray) (k : Nat) (h : k < l.length) : hd l (k + 1) = hd l k ++ n2 (l.getD k ⟨#[]⟩).size := by
  unfold hd
  rw [take_next l k h, List.map_append, List.flatMap_append, List.map_singleton]
  simp [bs_length]
theorem hd_all (l : List ByteArray) : hd l l.length = head (l.map bs) := by
  unfold hd head; rw [List.take_length, List.length_map]
theorem hd_len (l : List ByteArray) (k : Nat) : (hd l k).length ≤ 6 + 2 * l.length := by
  unfold hd
  rw [List.length_append, List.length_append, sizes_len, List.length_map, List.length_take]
  show 4 + 2 + _ ≤ _
  omega
/-- and the first k themselves -/
def bl (l : List ByteArray) (k : Nat) : List Nat := head (l.map bs) ++ ((l.take k).map bs).flatten
theorem bl_zero (l : List ByteArray) : bl l 0 = head (l.map bs) := by simp [bl]
theorem bl_next (l : List ByteArray) (k : Nat) (h : k < l.length) : bl l (k + 1) = bl l k ++ bs (l.getD k ⟨#[]⟩) := by
  unfold bl
  rw [take_next l k h, List.map_append, List.flatten_append, List.map_singleton]
  simp
theorem bl_all (l : List ByteArray) : bl l l.length = blob (l.map bs) := by
  unfold bl blob; rw [List.take_length]
theorem bl_len (l : List ByteArray) (k : Nat) : (bl l k).length = 6 + 2 * l.length + tot (l.take k) := by
  unfold bl
  rw [List.length_append, head_len, total_len, List.length_map]; rfl
theorem head_lt (c : List (List Nat)) : ∀ x ∈ head c, x < 256 := by
  intro x hx
  unfold head at hx
  simp only [List.mem_append, List.mem_flatMap] at hx
  rcases hx with (hx | hx) | ⟨y, _, hx⟩
  · simp [pak1] at hx; omega
  · exact n2_lt _ x hx
  · exact n2_lt _ x hx
theorem blob_lt (l : List ByteArray) : ∀ x ∈ blob (l.map bs), x < 256 := by
  intro x hx
  unfold blob at hx
  rcases List.mem_append.1 hx with hx | hx
  · exact head_lt _ x hx
  · obtain ⟨y, hy, hx⟩ := List.mem_flatten.1 hx
    obtain ⟨s, _, rfl⟩ := List.mem_map.1 hy
    exact bs_lt s x hx
set_option maxRecDepth 20000 in
set_option maxHeartbeats 2000000 in
theorem written_any (l : List ByteArray) (A : Option Addr) (cap : Nat) (w : World) (h : Tx w A l) (hl : l.length < 65536) (hs : ∀ s ∈ l, s.size < 65536) (ht : tot l ≤ 1000000) :
    Calls Tryd.prog 38 #[.slice A l.length cap] w fun e w' => e = .returned (.string (ofBs (blob (l.map bs)))) ∧ Below w.heap.size w w' := by
  obtain ⟨n, hn⟩ : ∃ n, n = l.length := ⟨_, rfl⟩
  have HN := hid hn
  have HL := hid h
  have HS := hid hs
  have HT := hid ht
  have hf := hid (Holds.fresh w w.heap.size rfl)
  have hb0 : Below w.heap.size w (w.alloc (.cells #[.pointer none, .slice none 0 0] 80)) := (Below.refl _ _).alloc (Nat.le_refl _) _
  have HZ := hid (hd_zero l)
  have HBL := hid (blob_lt l)
  have HBA := hid (bl_all l)
  have HHA := hid (hd_all l)
  rw [← hn] at hl HZ HBA HHA ⊢
  have hp : bs (⟨#[112, 97, 107, 49]⟩ : ByteArray) = pak1 := by decide
  clear hn h hs ht
  go_enter Tryd.func38, Tryd.ntmps38
  go_wp2_with fail
  refine (puts_any _ _ _ _ hf.out (by show 0 + 4 ≤ _; omega)).mono ?_
  rintro e w1 ⟨rfl, h1, b1⟩
  rw [List.nil_append, hp] at h1
  have B1 := hid (hb0.trans b1)
  have H1 := hid h1
  clear h1 b1 hb0 hf hp
  go_wp2_with fail
  refine (twoBytes_any n hl _).mono ?_
  rintro e w2 ⟨rfl, b2⟩
  have B2 := hid (B1.out.trans (b2.mono B1.out.size))
  have H2 : Hid (Holds w.heap.size pak1 w2) := H1.out.below b2
  clear b2 H1
  go_wp2_with fail
  refine (puts_any _ _ _ _ H2.out (by rw [ofBs_size, n2_len]; show 4 + 2 ≤ _; omega)).mono ?_
  rintro e w3 ⟨rfl, h3, b3⟩
  rw [bs_ofBs _ (n2_lt n), ← HZ.out] at h3
  have B3 := hid (B2.out.trans b3)
  have H3 := hid h3
  clear h3 b3 H2 HZ
  go_wp2_with fail
  go_loopw [5, 15] (fun _ v15 wr => ∃ k : Nat, k ≤ n ∧ v15 = .int .i64 (k : Int) ∧ Holds w.heap.size (hd l k) wr ∧ Below w.heap.size w wr) (fun _ v15 _ => n - (intOf v15).toNat)
  case atStart => exact ⟨0, Nat.zero_le _, rfl, H3.out, B3.out⟩
  case round =>
    clear H3 B3
    obtain ⟨k, hk, rfl, hH, hB⟩ := hrel
    by_cases hlt : k < n
    · have hkl : k < l.length := by rw [← HN.out]; exact hlt
      obtain ⟨g, o, rfl, hg, c0⟩ := tx_cell HL.out hB hkl
      have hnx := hid (hd_next l k hkl)
      have hln := hid (hd_len l k)
      have hs := HS.out _ (getD_mem hkl)
      generalize l.getD k ⟨#[]⟩ = s at *
      have i1 : (k : Int) < (n : Int) := by omega
      have wk : IntKind.i64.wrap ((k : Int) + 1) = ((k + 1 : Nat) : Int) := by rw [IntKind.wrap_i64]; omega
      have HH := hid hH
      have HB := hid hB
      clear hH hB
      go_wp2_with fail
      refine (twoBytes_any s.size hs _).mono ?_
      rintro e w4 ⟨rfl, b4⟩
      have B4 := hid (HB.out.trans (b4.mono HB.out.size))
      have H4 : Hid (Holds w.heap.size (hd l k) w4) := HH.out.below b4
      clear b4 HH HB
      go_wp2_with fail
      refine (puts_any _ _ _ _ H4.out (by have h1 := hln.out; have h2 := HN.out; rw [ofBs_size, n2_len]; omega)).mono ?_
      rintro e w5 ⟨rfl, h5, b5⟩
      rw [bs_ofBs _ (n2_lt s.size), ← hnx.out] at h5
      have B5 := hid (B4.out.trans b5)
      have H5 := hid h5
      clear h5 b5 H4
      go_wp2_with fail
      go_roundw
      case rel => exact ⟨k + 1, by omega, by rfl, H5.out, B5.out⟩
      case measure => first | (simp [intOf]; done) | (simp [intOf]; omega)
    · obtain rfl : k = n := by omega
      have q1 : ¬ ((k : Int) < (k : Int)) := by omega
      have HH : Hid (Holds w.heap.size (bl l 0) wr) := hid (by rw [bl_zero, ← HHA.out]; exact hH)
      have HB := hid hB
      clear hH hB
      go_wp2_with fail
      go_loopw [7, 26] (fun _ v26 wr => ∃ j : Nat, j ≤ k ∧ v26 = .int .i64 (j : Int) ∧ Holds w.heap.size (bl l j) wr ∧ Below w.heap.size w wr) (fun _ v26 _ => k - (intOf v26).toNat)
      case atStart => exact ⟨0, Nat.zero_le _, rfl, HH.out, HB.out⟩
      case round =>
        clear HH HB
        obtain ⟨j, hj, rfl, hH, hB⟩ := hrel
        by_cases hlt : j < k
        · have hkl : j < l.length := by rw [← HN.out]; exact hlt
          obtain ⟨g, o, rfl, hg, c0⟩ := tx_cell HL.out hB hkl
          have hnx := hid (bl_next l j hkl)
          have hln := hid (bl_len l j)
          have htl := hid (tot_take_le l j)
          have hs := HS.out _ (getD_mem hkl)
          generalize l.getD j ⟨#[]⟩ = s at *
          have i1 : (j : Int) < (k : Int) := by omega
          have wk : IntKind.i64.wrap ((j : Int) + 1) = ((j + 1 : Nat) : Int) := by rw [IntKind.wrap_i64]; omega
          have HH := hid hH
          have HB := hid hB
          clear hH hB
          go_wp2_with fail
          refine (puts_any _ _ _ _ HH.out (by have h1 := hln.out; have h2 := HN.out; have h3 := htl.out; have h4 := HT.out; omega)).mono ?_
          rintro e w5 ⟨rfl, h5, b5⟩
          rw [← hnx.out] at h5
          have B5 := hid (HB.out.trans b5)
          have H5 := hid h5
          clear h5 b5 HH HB
          go_wp2_with fail
          go_roundw
          case rel => exact ⟨j + 1, by omega, by rfl, H5.out, B5.out⟩
          case measure => first | (simp [intOf]; done) | (simp [intOf]; omega)
        · obtain rfl : j = k := by omega
          have q1 : ¬ ((j : Int) < (j : Int)) := by omega
          rw [HBA.out] at hH
          have HH := hid hH
          have HB := hid hB
          clear hH hB
          go_wp2_with fail
          refine (tell_any _ _ _ HH.out HBL.out).mono ?_
          rintro e w6 ⟨rfl, b6⟩
          have B6 := hid (HB.out.trans b6)
          clear b6 HH HB
          go_wp2_with fail
          go_ret
          exact ⟨rfl, B6.out⟩
/-! places -/
def nIs (z : List Nat) : Array Value := (z.map nI).toArray
theorem nIs_size (z : List Nat) : (nIs z).size = z.length := by simp [nIs]
theorem nIs_set (z : List Nat) (i x : Nat) : (nIs z).setIfInBounds i (.int .i64 (x : Int)) = nIs (z.set i x) := by
  simp [nIs, List.map_set, nI]
theorem makes_ints (n : Nat) (hn : n ≤ 1000000) (w : World) : (Instr.makeSlice 43 (.int .i64 (n : Int)) (.int .i64 (n : Int))).run Tryd.prog w = .ok (.slice (some ⟨w.heap.size, 0, none⟩) n n) (w.alloc (.cells (nIs (List.replicate n 0)) 3)) := by
  obtain ⟨i, hi, h1, h2, h3⟩ := info_parts (show (Tryd.prog.info? 3).map (fun i => (i.zero, i.size, i.bytes)) = some (some (.int .i64 0), 1, 8) by kernel_rfl)
  rw [run_make w 43 3 i (.int .i64 0) Tryd.underlying43 hi h1 .i64 .i64 (n : Int) (n : Int) (by omega) (Int.le_refl _) (by rw [h3]; omega) (by omega)]
  have e : madeCells (Value.int .i64 0).cells (n * 1) = nIs (List.replicate n 0) := by
    apply Array.toList_inj.1
    have hz : (Value.int .i64 0).cells = #[.int .i64 0] := rfl
    rw [hz, Nat.mul_one]
    apply List.ext_getElem
    · simp [madeCells, nIs]
    · intro k h1 h2
      simp [madeCells, nIs, Nat.mod_one, nI]
  rw [h2, Int.toNat_natCast, e]
/-- the first k of a list's, and noughts -/
def upTo (z : List Nat) (k : Nat) : List Nat := z.take k ++ List.replicate (z.length - k) 0
theorem upTo_zero (z : List Nat) : upTo z 0 = List.replicate z.length 0 := by simp [upTo]
theorem upTo_all (z : List Nat) : upTo z z.length = z := by simp [upTo]
theorem upTo_len (z : List Nat) (k : Nat) (h : k ≤ z.length) : (upTo z k).length = z.length := by
  unfold upTo; rw [List.length_append, List.length_take, List.length_replicate]; omega
theorem upTo_set (z : List Nat) (k : Nat) (h : k < z.length) : (upTo z k).set k (z.getD k 0) = upTo z (k + 1) := by
  unfold upTo
  have hl : (z.take k).length = k := by rw [List.length_take]; omega
  rw [List.set_append_right _ _ (by omega), hl, Nat.sub_self, show z.length - k = (z.length - (k + 1)) + 1 by omega, List.replicate_succ, List.set_cons_zero, List.take_succ_eq_append_getElem h, List.append_assoc, List.getD_eq_getElem?_getD, List.getElem?_eq_getElem h]
  rfl
theorem has_is {w : World} {g : Nat} {z : List Nat} (h : Has w g (nIs z) 3) : Is w (some ⟨g, 0, none⟩) z := by
  intro j hj
  refine ⟨g, 0, rfl, h.lt, ?_⟩
  rw [Nat.zero_add, h.cell]
  simp [nIs, nI, List.getD_eq_getElem?_getD, List.getElem?_eq_getElem hj]
/-- the k-th place -/
theorem at_get (l : List ByteArray) (k : Nat) (h : k < l.length) : (at' (l.map bs)).getD k 0 = 6 + 2 * l.length + tot (l.take k) := by
  unfold at'
  rw [List.getD_eq_getElem?_getD, places_get _ _ _ (by rw [List.length_map]; exact h), List.length_map]
  unfold tot
  rw [List.map_take]; rfl
theorem at_len (l : List ByteArray) : (at' (l.map bs)).length = l.length := by unfold at'; rw [places_len, List.length_map]
set_option maxRecDepth 20000 in
set_option maxHeartbeats 2000000 in
theorem places_any (l : List ByteArray) (A : Option Addr) (cap : Nat) (w : World) (h : Tx w A l) (hl : l.length < 65536) (ht : tot l ≤ 1000000) :
    Calls Tryd.prog 39 #[.slice A l.length cap] w fun e w' => e = .returned (.slice (some ⟨w.heap.size, 0, none⟩) l.length l.length) ∧ Is w' (some ⟨w.heap.size, 0, none⟩) (at' (l.map bs)) ∧ Below w.heap.size w w' := by
  have hmk := fun W => makes_ints l.length (by omega) W
  have HG := hid (fun k => at_get l k)
  have HLE := hid (at_len l)
  obtain ⟨z, hz⟩ : ∃ z, z = at' (l.map bs) := ⟨_, rfl⟩
  rw [← hz] at HG HLE ⊢
  obtain ⟨n, hn⟩ : ∃ n, n = l.length := ⟨_, rfl⟩
  have HN := hid hn
  have HL := hid h
  have HT := hid ht
  have h0 := hid (Has.new w w.heap.size (nIs (List.replicate l.length 0)) 3 rfl)
  have hb0 : Below w.heap.size w (w.alloc (.cells (nIs (List.replicate l.length 0)) 3)) := (Below.refl _ _).alloc (Nat.le_refl _) _
  have hu : upTo z 0 = List.replicate l.length 0 := by rw [upTo_zero, HLE.out]
  rw [← hn] at hl hmk hb0 HG HLE h0 hu ⊢
  have h0 : Hid (Has (w.alloc (.cells (nIs (List.replicate n 0)) 3)) w.heap.size (nIs (upTo z 0)) 3) := by rw [hu]; exact h0
  have wn : IntKind.i64.wrap (4 + IntKind.i64.wrap (2 * IntKind.i64.wrap (1 + (n : Int)))) = ((6 + 2 * n : Nat) : Int) := by
    rw [IntKind.wrap_i64, IntKind.wrap_i64, IntKind.wrap_i64]; omega
  clear hn h ht hz hu
  go_enter Tryd.func39, Tryd.ntmps39
  go_wp2_with fail
  go_loopw [4, 5, 6, 17] (fun v4 _ _ v17 wr => ∃ k : Nat, k ≤ n ∧ v17 = .int .i64 (k : Int) ∧ v4 = .int .i64 ((6 + 2 * n + tot (l.take k) : Nat) : Int) ∧ Has wr w.heap.size (nIs (upTo z k)) 3 ∧ Below w.heap.size w wr) (fun _ _ _ v17 _ => n - (intOf v17).toNat)
  case atStart => exact ⟨0, Nat.zero_le _, rfl, by first | rfl | (simp [tot, total]; done) | (simp [tot, total]; omega), h0.out, hb0⟩
  case round =>
    clear h0 hb0 hmk wn
    obtain ⟨k, hk, rfl, rfl, hH, hB⟩ := hrel
    by_cases hlt : k < n
    · have hkl : k < l.length := by rw [← HN.out]; exact hlt
      obtain ⟨g, o, rfl, hg, c0⟩ := tx_cell HL.out hB hkl
      have htk := tot_take l k hkl
      have htl := tot_take_le l (k + 1)
      have HTT := HT.out
      have hat := HG.out k hlt
      obtain ⟨p0, hp0⟩ : ∃ p0, p0 = 6 + 2 * n + tot (l.take k) := ⟨_, rfl⟩
      obtain ⟨p1, hp1⟩ : ∃ p1, p1 = 6 + 2 * n + tot (l.take (k + 1)) := ⟨_, rfl⟩
      have HP1 := hid hp1
      rw [← hp0] at hat ⊢
      have hw := hH.set k (.int .i64 (p0 : Int))
      rw [nIs_set, ← hat, upTo_set z k (by rw [HLE.out]; exact hlt), hat] at hw
      have hsz : (upTo z k).length = n := by rw [upTo_len z k (by rw [HLE.out]; omega)]; exact HLE.out
      have c1 : wr.cell? ⟨w.heap.size, k, none⟩ = some (.int .i64 (((upTo z k).getD k 0 : Nat) : Int)) := by
        rw [hH.cell k]
        simp [nIs, nI, List.getD_eq_getElem?_getD, List.getElem?_eq_getElem (show k < (upTo z k).length by omega)]
      have f1 := hH.frozen k
      have HW := hid hw
      generalize l.getD k ⟨#[]⟩ = s at *
      generalize (upTo z k).getD k 0 = y at *
      have i1 : (k : Int) < (n : Int) := by omega
      have i0 : (0 : Int) ≤ (k : Int) := by omega
      have wk : IntKind.i64.wrap ((k : Int) + 1) = ((k + 1 : Nat) : Int) := by rw [IntKind.wrap_i64]; omega
      have wt : IntKind.i64.wrap ((p0 : Int) + (s.size : Int)) = (p1 : Int) := by rw [IntKind.wrap_i64]; omega
      have HB := hid hB
      clear hH hB hw htk htl HTT hp0 hp1 hat hsz
      go_wp2_with fail
      go_roundw
      case rel => exact ⟨k + 1, by omega, by rfl, by rw [← HP1.out], HW.out, HB.out.setCell (p := ⟨w.heap.size, k, none⟩) (Nat.le_refl _) _⟩
      case measure => first | (simp [intOf]; done) | (simp [intOf]; omega)
    · obtain rfl : k = n := by omega
      have q1 : ¬ ((k : Int) < (k : Int)) := by omega
      have e : upTo z k = z := by rw [← HLE.out]; exact upTo_all z
      rw [e] at hH
      have HH := hid (has_is hH)
      clear hH e
      go_wp2_with fail
      go_ret
      exact ⟨rfl, HH.out, hB⟩
set_option maxRecDepth 20000 in
set_option maxHeartbeats 2000000 in
/-- chunks that may be a pack -/
theorem make_yes (l : List ByteArray) (A : Option Addr) (cap : Nat) (w : World) (h : Tx w A l) (hM : May (l.map bs)) :
    Calls Tryd.prog 25 #[.slice A l.length cap] w fun e w' => ∃ g, e = .returned (.tuple #[.string (ofBs (blob (l.map bs))), .slice (some ⟨g, 0, none⟩) l.length l.length, .int .i64 0]) ∧ Is w' (some ⟨g, 0, none⟩) (at' (l.map bs)) ∧ Below w.heap.size w w' := by
  have h1 := hM.most
  have h2 : tot l ≤ 16384 := by
    rcases hM.room with e | e
    · rw [List.length_map] at e
      match l, e with
      | [s], _ =>
        have := (hM.each (bs s) (by simp)).2
        rw [tot_cons, ← bs_length]; show _ + 0 ≤ _; omega
    · unfold tot; omega
  rw [List.length_map] at h1
  have HM : Hid (mayB l = true) := hid (mayB_yes hM)
  have C1 := fun W (h : Tx W A l) => may_any l A cap W h (by omega) (by omega)
  rw [HM.out] at C1
  have C2 := fun W (h : Tx W A l) => written_any l A cap W h (by omega) (fun s hs => by have := tot_le hs; omega) (by omega)
  have C3 := fun W (h : Tx W A l) => places_any l A cap W h (by omega) (by omega)
  have HL := hid h
  generalize hB : ofBs (blob (l.map bs)) = B at *
  generalize at' (l.map bs) = z at *
  generalize hn : l.length = n at *
  clear h h1 h2 hM HM
  go_enter Tryd.func25, Tryd.ntmps25
  go_wp2_with fail
  refine (C1 _ HL.out).mono ?_
  rintro e w1 ⟨rfl, b1⟩
  have B1 := hid b1
  clear b1
  go_wp2_with fail
  refine (C2 _ (HL.out.below B1.out)).mono ?_
  rintro e w2 ⟨rfl, b2⟩
  have B2 := hid (B1.out.trans (b2.mono B1.out.size))
  clear b2
  go_wp2_with fail
  refine (C3 _ (HL.out.below B2.out)).mono ?_
  rintro e w3 ⟨rfl, h3, b3⟩
  have B3 := hid (B2.out.trans (b3.mono B2.out.size))
  have H3 := hid h3
  clear b3 h3
  go_wp2_with fail
  exact bodyPost_ret (v := .tuple #[.string B, .slice (some ⟨w2.heap.size, 0, none⟩) n n, .int .i64 0]) (by simp [results, Tryd.results25, go_sem]) rfl ⟨_, rfl, H3.out, B3.out⟩
theorem make_no (l : List ByteArray) (A : Option Addr) (cap : Nat) (w : World) (h : Tx w A l) (hl : l.length ≤ 1000000) (ht : tot l ≤ 100000000) (hM : ¬ May (l.map bs)) :
    Calls Tryd.prog 25 #[.slice A l.length cap] w fun e w' => e = .returned (.tuple #[.string ⟨#[]⟩, .slice none 0 0, .int .i64 4]) ∧ Below w.heap.size w w' := by
  have C1 := may_any l A cap w h hl ht
  rw [mayB_no hM] at C1
  clear h ht hM
  generalize l.length = n at *
  go_enter Tryd.func25, Tryd.ntmps25
  go_wp2_with fail
  refine C1.mono ?_
  rintro e w1 ⟨rfl, b1⟩
  go_wp2_with fail
  exact bodyPost_ret (v := .tuple #[.string ⟨#[]⟩, .slice none 0 0, .int .i64 4]) (by simp [results, Tryd.results25, go_sem]) rfl ⟨rfl, b1⟩
end Go.Proofs.YtjhjolnflkekoaaDoor
