/- The document's turn, digits and Hex: their contracts. -/
import Derived.Test.YtnhakbpalfcmfaaDoorOwn
import Derived.Test.YtnhakbpalfcmfaaDoorBack
import Derived.Test.YtnhakbpalfcmfaaDoorMany
import Derived.Test.YtnhakbpalfcmfaaDoorHSum
import Derived.Deep.RegionHeld3
namespace Go.Proofs.YtnhakbpalfcmfaaDoor
open Go.RowKit
/-- the document's turn -/
theorem refTurn_any (x : Nat) (n : Int) (w : World) (hx : x < 4294967296) (h1 : 1 ≤ n) (h2 : n ≤ 31) :
    Calls Tryd.prog 68 #[.int .u32 x, .int .u32 n] w fun e w' => e = .returned (.int .u32 (Sha.rotr x n.toNat : Nat)) ∧ w' = w := by
  obtain ⟨m, rfl⟩ := Int.eq_ofNat_of_zero_le (show 0 ≤ n by omega)
  go_enter Tryd.func68, Tryd.ntmps68
  go_wp2
  go_ret
  refine ⟨ret_int ?_, rfl⟩
  have e1 : ((x : Int) * 2 ^ (32 - m) % 4294967296) = ((x * 2 ^ (32 - m) % 4294967296 : Nat) : Int) := by simp
  have e2 : ((x : Int) / 2 ^ m) = ((x / 2 ^ m : Nat) : Int) := by simp
  rw [e1, e2, u32_or_nat _ _ (Nat.lt_of_le_of_lt (Nat.div_le_self _ _) hx) (Nat.mod_lt _ (by decide)), Int.toNat_natCast, Nat.or_comm]
  rfl
theorem refDigit_any (n : Nat) (hn : n < 16) (w : World) : Calls Tryd.prog 46 #[.int .u8 (n : Int)] w fun e w' => e = .returned (.int .u8 ((Sha.hexChar n : Nat) : Int)) ∧ w' = w := by
  by_cases h : n < 10
  · have e : ((Sha.hexChar n : Nat) : Int) = 48 + (n : Int) := by unfold Sha.hexChar; rw [if_pos h]; omega
    go_enter Tryd.func46, Tryd.ntmps46
    go_wp2
    go_ret
    exact ⟨ret_int (by rw [e]), rfl⟩
  · have e : ((Sha.hexChar n : Nat) : Int) = 87 + (n : Int) := by unfold Sha.hexChar; rw [if_neg h]; omega
    go_enter Tryd.func46, Tryd.ntmps46
    go_wp2
    go_ret
    exact ⟨ret_int (by rw [e]; omega), rfl⟩
theorem refDigit_at (n : Int) (m : Nat) (hn : n = (m : Int)) (hm : m < 16) (w : World) : Calls Tryd.prog 46 #[.int .u8 n] w fun e w' => e = .returned (.int .u8 ((Sha.hexChar m : Nat) : Int)) ∧ w' = w := by
  subst hn; exact refDigit_any m hm w
theorem num_none (c : Nat) (h : ∀ j, j < 16 → Sha.hexChar j ≠ c) : Sha.num c = 16 := by
  by_cases hc : Sha.num c < 16
  · exact absurd (Sha.hexChar_num c hc) (h _ hc)
  · unfold Sha.num at hc ⊢
    split at hc
    · omega
    · rename_i h1
      rw [if_neg h1]
      split at hc
      · omega
      · rename_i h2; rw [if_neg h2]
set_option maxRecDepth 20000 in
theorem refNumber_any (c : Nat) (w : World) : Calls Tryd.prog 44 #[.int .u8 (c : Int)] w fun e w' => e = .returned (.int .u8 ((Sha.num c : Nat) : Int)) ∧ w' = w := by
  go_enter Tryd.func44, Tryd.ntmps44
  go_wp2_with fail
  go_loop [3] (fun v => ∃ n : Nat, n ≤ 16 ∧ v = .int .u8 (n : Int) ∧ ∀ j, j < n → Sha.hexChar j ≠ c) (fun v => 16 - (intOf v).toNat)
  case atStart => exact ⟨0, by omega, rfl, fun j hj => by omega⟩
  case round =>
    obtain ⟨n, hn, rfl, hall⟩ := hrel
    have HA : Hid _ := hall
    clear hall
    by_cases hlt : n < 16
    · by_cases he : Sha.hexChar n = c
      · have hb : (((Sha.hexChar n : Nat) : Int) == (c : Int)) = true := by rw [he]; simp
        have HE : Hid _ := he
        clear he
        go_wp2_with (go_at_call 46; refine (refDigit_any n hlt _).mono ?_; rintro e w' ⟨rfl, rfl⟩)
        go_ret
        exact ⟨ret_int (by rw [← HE.out, Sha.num_hexChar _ hlt]), rfl⟩
      · have hb : (((Sha.hexChar n : Nat) : Int) == (c : Int)) = false := by rw [beq_eq_false_iff_ne]; omega
        have HE : Hid _ := he
        clear he
        go_wp2_with (go_at_call 46; refine (refDigit_any n hlt _).mono ?_; rintro e w' ⟨rfl, rfl⟩)
        go_round
        case rel =>
          refine ⟨n + 1, by omega, by go_num, fun j hj => ?_⟩
          by_cases hjn : j = n
          · subst hjn; exact HE.out
          · exact HA.out j (by omega)
        case measure => simp [intOf]; omega
    · obtain rfl : n = 16 := by omega
      have hnn := num_none c HA.out
      have HN : Hid _ := hnn
      clear hnn
      go_wp2_with fail
      go_ret
      exact ⟨ret_int (by rw [HN.out]; rfl), rfl⟩
theorem U8s_app (l : List Nat) (a b : Nat) : (U8s l).toList ++ #[Value.int .u8 (a : Int), .int .u8 (b : Int)].toList = (U8s (l ++ [a] ++ [b])).toList := by simp [U8s]
theorem conv_nil (w : World) : (convert 43 9 (.slice none 0 0)).run Tryd.prog w = .ok (.string ⟨#[]⟩) w := by kernel_rfl
theorem Owns.has {base g cap n : Nat} {l : List Nat} {w : World} (h : Owns 5 base (.slice (some ⟨g, 0, none⟩) n cap) (U8s l).toList w) : (loadCells ⟨g, 0, none⟩ l.length).run Tryd.prog w = .ok (U8s l) w := by
  have h2 := run_loadCells_list (P := Tryd.prog) w ⟨g, 0, none⟩ (U8s l).toList (fun j v hv => by
    have hj : j < (U8s l).toList.length := (List.getElem?_eq_some_iff.1 hv).1
    rw [Addr.add_mid, Nat.zero_add, h.cell j hj]; exact hv)
  rw [Array.length_toList, U8s_size] at h2
  rw [h2]
theorem conv_own {base : Nat} {v : Value} {l : List Nat} {w : World} (h : Owns 5 base v (U8s l).toList w) : (convert 43 9 v).run Tryd.prog w = .ok (.string (ofBs l)) w := by
  by_cases hp : 0 < (U8s l).toList.length
  · obtain ⟨g, cap, rfl, _⟩ := h.form hp
    have hl : (loadCells ⟨g, 0, none⟩ (U8s l).toList.length).run Tryd.prog w = .ok ((l.map fun x : Nat => (x : Int)).map (Value.int .u8)).toArray w := by
      rw [Array.length_toList, U8s_size, h.has]
      simp [U8s]
    rw [run_convert_bytes_string w 43 9 5 _ _ _ Tryd.underlying43 Tryd.underlying5 Tryd.underlying9, run_bytesToString w _ _ _ _ hl, fold_push]
    simp [ofBs]
  · have hl : l = [] := by
      rw [Array.length_toList, U8s_size] at hp
      exact List.eq_nil_of_length_eq_zero (by omega)
    subst hl
    obtain ⟨_, h2⟩ := h
    rcases h2 with ⟨rfl, _⟩ | ⟨g, cap, cur, rfl, _⟩
    · exact conv_nil w
    · have hl : (loadCells ⟨g, 0, none⟩ (U8s []).toList.length).run Tryd.prog w = .ok (([] : List Int).map (Value.int .u8)).toArray w := by
        have h3 := run_loadCells_list (P := Tryd.prog) w ⟨g, 0, none⟩ [] (by simp)
        exact h3
      rw [run_convert_bytes_string w 43 9 5 _ _ _ Tryd.underlying43 Tryd.underlying5 Tryd.underlying9, run_bytesToString w _ _ _ _ hl]
      rfl
set_option maxRecDepth 20000 in
set_option maxHeartbeats 1000000 in
theorem refHex_any (s : ByteArray) (hs : s.size ≤ 400000000000) (w : World) :
    Calls Tryd.prog 28 #[.string s] w fun e w' => e = .returned (.string (ofBs (Sha.hex (bs s)))) ∧ Below w.heap.size w w' := by
  go_enter Tryd.func28, Tryd.ntmps28
  go_wp2_with fail
  go_loopw [3, 4] (fun v i wr => ∃ k : Nat, k ≤ s.size ∧ i = .int .i64 (k : Int) ∧ Owns 5 w.heap.size v (U8s (Sha.hex ((bs s).take k))).toList wr ∧ Below w.heap.size w wr) (fun _ i _ => s.size - (intOf i).toNat)
  case atStart => exact ⟨0, by omega, rfl, Owns.nil _ _ _, Below.refl _ _⟩
  case round =>
    obtain ⟨k, hk, rfl, h1, b1⟩ := hrel
    by_cases hlt : k < s.size
    · have hx : s[k].toNat < 256 := s[k].toNat_lt
      have HS : Hid (Sha.hex ((bs s).take (k + 1)) = Sha.hex ((bs s).take k) ++ [Sha.hexChar (s[k].toNat / 16)] ++ [Sha.hexChar (s[k].toNat % 16)]) := by
        unfold Hid; rw [bs_take_succ s k hlt, hex_snoc]
      have hll : Hid ((Sha.hex ((bs s).take k)).length ≤ 2 * s.size) := by unfold Hid; rw [hex_length, List.length_take, bs_length]; omega
      have i0 : (0 : Int) ≤ (k : Int) := by omega
      have i1 : (k : Int) < (s.size : Int) := by omega
      have A1 : Hid (IntKind.u8.wrap ((s[k].toNat : Int) / 16) = ((s[k].toNat / 16 : Nat) : Int)) := by unfold Hid; rw [IntKind.wrap_u8']; omega
      have A2 : Hid ((s[k].toNat : Int).tmod 16 = ((s[k].toNat % 16 : Nat) : Int)) := by unfold Hid; rw [Int.tmod_eq_emod_of_nonneg (by omega)]; omega
      have l1 : Hid (s[k].toNat / 16 < 16) := by unfold Hid; omega
      have l2 : Hid (s[k].toNat % 16 < 16) := by unfold Hid; omega
      have hll2 : Hid ((U8s (Sha.hex ((bs s).take k))).toList.length + 2 ≤ 1000000000000) := by unfold Hid; rw [Array.length_toList, U8s_size]; have := hll.out; omega
      generalize Sha.hex ((bs s).take k) = acc at h1 HS hll hll2
      go_wp2_with fail
      go_region_held3 (fun W => Below w.heap.size w W) (first | exact b1.drew | exact hB | exact (belowAlloc b1 _).drew) (first
        | (go_at_call 46; (first | rw [A1.out] | rw [A2.out]); refine (refDigit_any _ (by omega) _).mono ?_; rintro e w' ⟨rfl, rfl⟩)
        | (refine step_app el5 rfl (.tmp 11) (.tmp 22) rfl w.heap.size u3 (U8s acc).toList rfl (by exact h1.alloc _) wr.heap.size _ #[Value.int .u8 ((Sha.hexChar (s[k].toNat / 16) : Nat) : Int), .int .u8 ((Sha.hexChar (s[k].toNat % 16) : Nat) : Int)] rfl (by exact Has.new _ _ _ _ rfl) (by simp [Value.oneCell']) (by simp) hll2.out (Nat.le_trans b1.size (by simp)) ?_; intro g cap w1 ho hg _ hb2; have hB : Below w.heap.size w w1 := ((belowAlloc b1 _).drew).trans hb2))
      all_goals go_wp2
      all_goals go_light
      all_goals rw [U8s_app, ← HS.out] at ho
      all_goals exact ⟨⟨k + 1, by omega, by go_num, ho, hB⟩, by simp [intOf]; omega⟩
    · obtain rfl : k = s.size := by omega
      rw [List.take_of_length_le (by rw [bs_length]; exact Nat.le_refl _)] at h1
      have hcv := conv_own h1
      go_wp2_with fail
      go_ret
      exact ⟨rfl, b1⟩
end Go.Proofs.YtnhakbpalfcmfaaDoor
