/- The laws' small functions: the same numbers, the same texts, more than is gone through, a byte so often. -/
import Derived.Test.YtfebelcdffknkaaSmall
namespace Go.Proofs.Ytfebelcdffknkaa
open Go.RowKit
open Pk
set_option linter.unusedVariables false
set_option maxHeartbeats 2000000 in
theorem ints_any (z : List Nat) (A B : Option Addr) (ca cb : Nat) (w : World) (ha : Is w A z) (hb : Is w B z) (hl : z.length ≤ 1000000) :
    Calls Try.prog 12 #[.slice A z.length ca, .slice B z.length cb] w fun e w' => e = .returned (.bool true) ∧ Below w.heap.size w w' := by
  obtain ⟨n, hn⟩ : ∃ n, n = z.length := ⟨_, rfl⟩
  have HN := hid hn
  have HA := hid ha
  have HB := hid hb
  rw [← hn] at hl ⊢
  clear hn ha hb
  go_enter Try.func12, Try.ntmps12
  go_wp2_with fail
  go_loopw [5] (fun v5 wr => ∃ k : Nat, k ≤ n ∧ v5 = .int .i64 (k : Int) ∧ Below w.heap.size w wr) (fun v5 _ => n - (intOf v5).toNat)
  case atStart => exact ⟨0, Nat.zero_le _, rfl, Below.refl _ _⟩
  case round =>
    obtain ⟨k, hk, rfl, hBl⟩ := hrel
    by_cases hlt : k < n
    · have hkz : k < z.length := by rw [← HN.out]; exact hlt
      obtain ⟨g, o, rfl, hg, c0⟩ := is_cell HA.out hBl hkz
      obtain ⟨g', o', rfl, hg', c1⟩ := is_cell HB.out hBl hkz
      generalize z.getD k 0 = x at *
      have i1 : (k : Int) < (n : Int) := by omega
      have wk : IntKind.i64.wrap ((k : Int) + 1) = ((k + 1 : Nat) : Int) := by rw [IntKind.wrap_i64]; omega
      have HBl := hid hBl
      clear hBl
      go_wp2_with fail
      go_region
      go_wp2_with fail
      go_roundw
      case rel => exact ⟨k + 1, by omega, by rfl, HBl.out.drew⟩
      case measure => first | (simp [intOf]; done) | (simp [intOf]; omega)
    · obtain rfl : k = n := by omega
      have q1 : ¬ ((k : Int) < (k : Int)) := by omega
      go_wp2_with fail
      go_ret
      exact ⟨rfl, hBl⟩
set_option maxHeartbeats 2000000 in
theorem texts_any (l : List ByteArray) (A B : Option Addr) (ca cb : Nat) (w : World) (ha : Tx w A l) (hb : Tx w B l) (hl : l.length ≤ 1000000) :
    Calls Try.prog 13 #[.slice A l.length ca, .slice B l.length cb] w fun e w' => e = .returned (.bool true) ∧ Below w.heap.size w w' := by
  obtain ⟨n, hn⟩ : ∃ n, n = l.length := ⟨_, rfl⟩
  have HN := hid hn
  have HA := hid ha
  have HB := hid hb
  rw [← hn] at hl ⊢
  clear hn ha hb
  go_enter Try.func13, Try.ntmps13
  go_wp2_with fail
  go_loopw [5] (fun v5 wr => ∃ k : Nat, k ≤ n ∧ v5 = .int .i64 (k : Int) ∧ Below w.heap.size w wr) (fun v5 _ => n - (intOf v5).toNat)
  case atStart => exact ⟨0, Nat.zero_le _, rfl, Below.refl _ _⟩
  case round =>
    obtain ⟨k, hk, rfl, hBl⟩ := hrel
    by_cases hlt : k < n
    · have hkz : k < l.length := by rw [← HN.out]; exact hlt
      obtain ⟨g, o, rfl, hg, c0⟩ := tx_cell HA.out hBl hkz
      obtain ⟨g', o', rfl, hg', c1⟩ := tx_cell HB.out hBl hkz
      generalize l.getD k ⟨#[]⟩ = x at *
      have i1 : (k : Int) < (n : Int) := by omega
      have wk : IntKind.i64.wrap ((k : Int) + 1) = ((k + 1 : Nat) : Int) := by rw [IntKind.wrap_i64]; omega
      have HBl := hid hBl
      clear hBl
      go_wp2_with fail
      go_region
      go_wp2_with fail
      go_roundw
      case rel => exact ⟨k + 1, by omega, by rfl, HBl.out.drew⟩
      case measure => first | (simp [intOf]; done) | (simp [intOf]; omega)
    · obtain rfl : k = n := by omega
      have q1 : ¬ ((k : Int) < (k : Int)) := by omega
      go_wp2_with fail
      go_ret
      exact ⟨rfl, hBl⟩
/-- are they more than a law goes through? -/
def lgB (l : List ByteArray) : Bool := decide (60000 ≤ tot l ∨ 600 < l.length)
def big (t : Nat) : Bool := decide (t < 60000)
set_option maxRecDepth 20000 in
set_option maxHeartbeats 2000000 in
theorem large_any (l : List ByteArray) (A : Option Addr) (cap : Nat) (w : World) (h : Tx w A l) (hl : l.length ≤ 9223372036854775807) (hs : ∀ s ∈ l, s.size ≤ 9223372036850000000) :
    Calls Try.prog 14 #[.slice A l.length cap] w fun e w' => e = .returned (.bool (lgB l)) ∧ Below w.heap.size w w' := by
  obtain ⟨n, hn⟩ : ∃ n, n = l.length := ⟨_, rfl⟩
  have HN := hid hn
  have HL := hid h
  have HS := hid hs
  rw [← hn] at hl ⊢
  clear hn h hs
  go_enter Try.func14, Try.ntmps14
  go_wp2_with fail
  go_loopw [3, 4] (fun v3 v4 wr => ∃ k : Nat, k ≤ n ∧ v4 = .int .i64 (k : Int) ∧ v3 = .int .i64 (tot (l.take k) : Int) ∧ tot (l.take k) ≤ 9223372036854775807 ∧ Below w.heap.size w wr) (fun _ v4 _ => n - (intOf v4).toNat)
  case atStart => exact ⟨0, Nat.zero_le _, rfl, rfl, by simp [tot, total], Below.refl _ _⟩
  case round =>
    obtain ⟨k, hk, rfl, rfl, htb, hB⟩ := hrel
    have hle := tot_take_le l k
    by_cases hlt : k < n
    · have hkl : k < l.length := by rw [← HN.out]; exact hlt
      have i1 : decide ((k : Int) < (n : Int)) = true := by simp; omega
      by_cases h6 : tot (l.take k) < 60000
      · obtain ⟨g, o, rfl, hg, c0⟩ := tx_cell HL.out hB hkl
        have hs := HS.out _ (getD_mem hkl)
        have htk := tot_take l k hkl
        obtain ⟨t1, ht1⟩ : ∃ t1, t1 = tot (l.take (k + 1)) := ⟨_, rfl⟩
        have HT1 := hid ht1
        rw [← ht1] at htk
        have d6 : decide ((tot (l.take k) : Int) < 60000) = true := by simp; omega
        generalize l.getD k ⟨#[]⟩ = s at *
        generalize tot (l.take k) = t at *
        have wk : IntKind.i64.wrap ((k : Int) + 1) = ((k + 1 : Nat) : Int) := by rw [IntKind.wrap_i64]; omega
        have wt : IntKind.i64.wrap ((t : Int) + (s.size : Int)) = (t1 : Int) := by rw [IntKind.wrap_i64]; omega
        have HT2 : Hid (t1 ≤ 9223372036854775807) := hid (by omega)
        clear hle htk ht1 htb h6 hs
        go_wp2_with fail
        go_roundw
        case rel => exact ⟨k + 1, by omega, by rfl, by rw [← HT1.out], by rw [← HT1.out]; exact HT2.out, hB⟩
        case measure => first | (simp [intOf]; done) | (simp [intOf]; omega)
      · have d6 : decide ((tot (l.take k) : Int) < 60000) = false := by simp; omega
        have d7 : decide ((60000 : Int) ≤ (tot (l.take k) : Int)) = true := by simp; omega
        have HF : Hid (lgB l = true) := hid (by unfold lgB; simp; omega)
        generalize tot (l.take k) = t at *
        clear hle htb h6
        go_wp2_with fail
        go_ret
        exact ⟨by rw [HF.out]; rfl, hB⟩
    · obtain rfl : k = n := by omega
      have i1 : decide ((k : Int) < (k : Int)) = false := by simp
      have e : l.take k = l := by rw [HN.out]; exact List.take_length
      rw [e] at htb hle ⊢
      by_cases h6 : tot l < 60000
      · have d7 : decide ((60000 : Int) ≤ (tot l : Int)) = false := by simp; omega
        by_cases h7 : 600 < k
        · have d8 : decide ((600 : Int) < (k : Int)) = true := by simp; omega
          have HF : Hid (lgB l = true) := hid (by unfold lgB; rw [← HN.out]; simp; omega)
          generalize tot l = t at *
          clear hle htb h6
          go_wp2_with fail
          go_ret
          exact ⟨by rw [HF.out]; rfl, hB⟩
        · have d8 : decide ((600 : Int) < (k : Int)) = false := by simp; omega
          have HF : Hid (lgB l = false) := hid (by unfold lgB; rw [← HN.out]; simp; omega)
          generalize tot l = t at *
          clear hle htb h6
          go_wp2_with fail
          go_ret
          exact ⟨by rw [HF.out]; rfl, hB⟩
      · have d7 : decide ((60000 : Int) ≤ (tot l : Int)) = true := by simp; omega
        have HF : Hid (lgB l = true) := hid (by unfold lgB; simp; omega)
        generalize tot l = t at *
        clear hle htb h6
        go_wp2_with fail
        go_ret
        exact ⟨by rw [HF.out]; rfl, hB⟩
theorem makes_u8 (n : Nat) (hn : n ≤ 1000000) (w : World) : (Instr.makeSlice 37 (.int .i64 (n : Int)) (.int .i64 (n : Int))).run Try.prog w = .ok (.slice (some ⟨w.heap.size, 0, none⟩) n n) (w.alloc (.cells (U8s (List.replicate n 0)) 5)) := by
  obtain ⟨i, hi, h1, h2, h3⟩ := info_parts (show (Try.prog.info? 5).map (fun i => (i.zero, i.size, i.bytes)) = some (some (.int .u8 0), 1, 1) by kernel_rfl)
  rw [run_make w 37 5 i (.int .u8 0) Try.underlying37 hi h1 .i64 .i64 (n : Int) (n : Int) (by omega) (Int.le_refl _) (by rw [h3]; omega) (by omega)]
  have e : madeCells (Value.int .u8 0).cells (n * 1) = U8s (List.replicate n 0) := by
    apply Array.toList_inj.1
    have hz : (Value.int .u8 0).cells = #[.int .u8 0] := rfl
    rw [hz, Nat.mul_one]
    apply List.ext_getElem
    · simp [madeCells, U8s]
    · intro k h1 h2
      simp [madeCells, U8s, Nat.mod_one]
  rw [h2, Int.toNat_natCast, e]
theorem conv_any {W : World} {q n : Nat} {l : List Nat} (h : Has W q (U8s l) 5) (hl : l.length = n) (h0 : 0 < n) : (convert 37 9 (.slice (some ⟨q, 0, none⟩) n n)).run Try.prog W = .ok (.string (ofBs l)) W := by
  subst hl
  exact conv_u8 h h0
theorem fill_set (k n b : Nat) (h : k < n) : (List.replicate k b ++ List.replicate (n - k) 0).set k b = List.replicate (k + 1) b ++ List.replicate (n - (k + 1)) 0 := by
  rw [List.set_append_right _ _ (by simp), List.length_replicate, Nat.sub_self, show n - k = (n - (k + 1)) + 1 by omega, List.replicate_succ, List.set_cons_zero, List.replicate_succ', List.append_assoc]
  rfl
/-- a byte so often -/
def rep (n b : Nat) : ByteArray := ofBs (List.replicate n b)
theorem rep_size (n b : Nat) : (rep n b).size = n := by unfold rep; rw [ofBs_size, List.length_replicate]
theorem rep_bs (n b : Nat) (hb : b < 256) : bs (rep n b) = List.replicate n b := bs_ofBs _ (fun x hx => by rw [List.eq_of_mem_replicate hx]; exact hb)
theorem many_any (n b : Nat) (hn : n ≤ 100000) (h0 : 0 < n) (w : World) : Calls Try.prog 8 #[.int .i64 (n : Int), .int .u8 (b : Int)] w fun e w' => e = .returned (.string (rep n b)) ∧ Below w.heap.size w w' := by
  have hmk := fun W => makes_u8 n (by omega) W
  go_enter Try.func8, Try.ntmps8
  go_wp2_with fail
  clear hmk
  go_loopw [6] (fun v6 wr => ∃ k : Nat, k ≤ n ∧ v6 = .int .i64 (k : Int) ∧ Has wr w.heap.size (U8s (List.replicate k b ++ List.replicate (n - k) 0)) 5 ∧ Below w.heap.size w wr) (fun v6 _ => n - (intOf v6).toNat)
  case atStart => exact ⟨0, Nat.zero_le _, rfl, by simpa using Has.new w w.heap.size _ 5 rfl, (Below.refl _ _).alloc (Nat.le_refl _) _⟩
  case round =>
    obtain ⟨k, hk, rfl, hh, hB⟩ := hrel
    by_cases hlt : k < n
    · have i1 : (k : Int) < (n : Int) := by omega
      have wk : IntKind.i64.wrap ((k : Int) + 1) = ((k + 1 : Nat) : Int) := by rw [IntKind.wrap_i64]; omega
      have c0 : wr.cell? ⟨w.heap.size, k, none⟩ = some (.int .u8 (((List.replicate k b ++ List.replicate (n - k) 0).getD k 0 : Nat) : Int)) := by
        rw [hh.cell k]
        have e : (List.replicate k b ++ List.replicate (n - k) 0).length = n := by simp; omega
        generalize List.replicate k b ++ List.replicate (n - k) 0 = l at *
        simp [U8s, List.getD_eq_getElem?_getD, List.getElem?_eq_getElem (show k < l.length by omega)]
      have f0 := hh.frozen k
      generalize (List.replicate k b ++ List.replicate (n - k) 0).getD k 0 = z at *
      have HH := hid (hh.set k (.int .u8 (b : Int)))
      rw [U8s_set, fill_set k n b hlt] at HH
      clear hh
      go_wp2_with fail
      go_roundw
      case rel => exact ⟨k + 1, by omega, by rfl, HH.out, hB.setCell (p := ⟨w.heap.size, k, none⟩) (Nat.le_refl _) _⟩
      case measure => first | (simp [intOf]; done) | (simp [intOf]; omega)
    · obtain rfl : k = n := by omega
      have q1 : ¬ ((k : Int) < (k : Int)) := by omega
      rw [Nat.sub_self, List.replicate_zero, List.append_nil] at hh
      have hcv := conv_any (n := k) hh (by simp) h0
      clear hh
      go_wp2_with fail
      go_ret
      exact ⟨rfl, hB⟩
end Go.Proofs.Ytfebelcdffknkaa
