/- The contracts of a field's methods: whether it is nil or was made by New. -/
import Derived.Test.YtfbjpgcgdhhfnaaNew
import Derived.Deep.QuietTactic
import Derived.BigQuiet
namespace Go.Proofs.Ytfbjpgcgdhhfnaa
open Go.RowKit
def FC : Array Value := U8s (Fld.cellsAt 255)
set_option maxRecDepth 20000 in
theorem FC_pwr {n : Nat} (h : n < 255) : FC[n]? = some (.int .u8 ((Fld.pwr n : Nat) : Int)) := by
  unfold FC
  rw [U8s_get _ _ (by rw [cellsAt_length]; omega), Fld.cells_end, List.getD_eq_getElem?_getD, List.getElem?_append_left (show n < Fld.powers.length from h), ← List.getD_eq_getElem?_getD]; rfl
set_option maxRecDepth 20000 in
theorem FC_lg {a : Nat} (h : a < 256) : FC[255 + a]? = some (.int .u8 ((Fld.lg a : Nat) : Int)) := by
  unfold FC
  rw [U8s_get _ _ (by rw [cellsAt_length]; omega), Fld.cells_end, List.getD_eq_getElem?_getD, List.getElem?_append_right (show Fld.powers.length ≤ 255 + a from Nat.le_add_right _ _), show 255 + a - Fld.powers.length = a from Nat.add_sub_cancel_left 255 a, ← List.getD_eq_getElem?_getD]; rfl
/-- a field: nil, or what New makes -/
def IsF (w : World) (v : Value) : Prop := v = .pointer none ∨ ∃ b, v = .pointer (some ⟨b, 0, none⟩) ∧ Has w b FC 79
theorem IsF.below {w w' : World} {v : Value} (h : IsF w v) (hb : Below w.heap.size w w') : IsF w' v := by
  rcases h with h | ⟨b, h, h1⟩
  · exact .inl h
  · exact .inr ⟨b, h, h1.below hb h1.lt⟩
theorem orNew_any (v : Value) (w : World) (hf : IsF w v) :
    Calls Try.prog 43 #[v] w fun e w' => ∃ b, e = .returned (.pointer (some ⟨b, 0, none⟩)) ∧ Has w' b FC 79 ∧ Below w.heap.size w w' := by
  rcases hf with rfl | ⟨b, rfl, h1⟩
  · go_enter Try.func43, Try.ntmps43
    go_wp2_with fail
    refine (new_any w).mono ?_
    rintro e w' ⟨rfl, h, hb⟩
    go_wp2_with fail
    go_ret
    exact ⟨_, rfl, h, hb⟩
  · go_enter Try.func43, Try.ntmps43
    go_wp2_with fail
    go_ret
    exact ⟨_, rfl, h1, Below.refl _ _⟩
theorem tmod255 (n : Int) : (Int.tmod n 255 < 0 → n % 255 = Int.tmod n 255 + 255) ∧ (0 ≤ Int.tmod n 255 → n % 255 = Int.tmod n 255) ∧ -255 < Int.tmod n 255 ∧ Int.tmod n 255 < 255 := by
  by_cases h : 0 ≤ n
  · rw [Int.tmod_eq_emod_of_nonneg h]; omega
  · have e : Int.tmod n 255 = -((-n) % 255) := by
      rw [show n = -(-n) by omega, Int.neg_tmod, Int.tmod_eq_emod_of_nonneg (by omega), Int.neg_neg]
    rw [e]; omega
theorem exp_any (v : Value) (n : Int) (w : World) (hf : IsF w v) :
    Calls Try.prog 44 #[v, .int .i64 n] w fun e w' => e = .returned (.int .u8 ((Fld.exp n : Nat) : Int)) ∧ Below w.heap.size w w' := by
  obtain ⟨t1, t2, t3, t4⟩ := tmod255 n
  have HE : Hid (Fld.exp n = Fld.pwr (n % 255).toNat) := rfl
  by_cases hs : Int.tmod n 255 < 0
  · obtain ⟨m, hm⟩ : ∃ m : Nat, Int.tmod n 255 = (m : Int) - 255 := ⟨(Int.tmod n 255 + 255).toNat, by omega⟩
    have hm1 : Hid ((n % 255).toNat = m) := by unfold Hid; rw [t1 hs, hm]; omega
    have hm2 : m < 255 := by omega
    have b0 : (m : Int) < 255 := by omega
    have e1 : (m : Int) - 255 + 255 = (m : Int) := by omega
    have d0 : decide ((m : Int) - 255 < 0) = true := by simp; omega
    clear t1 t2 t3 t4 hs
    go_enter Try.func44, Try.ntmps44
    go_wp2_with fail
    refine (orNew_any v _ hf).mono ?_
    rintro e w1 ⟨b, rfl, hh, hb⟩
    have c0 := (hh.cell m).trans (FC_pwr hm2)
    go_wp2_with fail
    go_ret
    exact ⟨by rw [HE.out, hm1.out]; rfl, hb⟩
  · obtain ⟨m, hm⟩ : ∃ m : Nat, Int.tmod n 255 = (m : Int) := ⟨(Int.tmod n 255).toNat, by omega⟩
    have hm1 : Hid ((n % 255).toNat = m) := by unfold Hid; rw [t2 (by omega), hm]; omega
    have hm2 : m < 255 := by omega
    have b0 : (m : Int) < 255 := by omega
    have d0 : decide ((m : Int) < 0) = false := by simp
    clear t1 t2 t3 t4 hs
    go_enter Try.func44, Try.ntmps44
    go_wp2_with fail
    refine (orNew_any v _ hf).mono ?_
    rintro e w1 ⟨b, rfl, hh, hb⟩
    have c0 := (hh.cell m).trans (FC_pwr hm2)
    go_wp2_with fail
    go_ret
    exact ⟨by rw [HE.out, hm1.out]; rfl, hb⟩
theorem orNew_same (b : Nat) (w : World) :
    Calls Try.prog 43 #[.pointer (some ⟨b, 0, none⟩)] w fun e w' => e = .returned (.pointer (some ⟨b, 0, none⟩)) ∧ w' = w := by
  go_enter Try.func43, Try.ntmps43
  go_wp2_with fail
  go_ret
  exact ⟨rfl, rfl⟩
theorem exp_same (b : Nat) (n : Int) (w : World) (hh : Has w b FC 79) :
    Calls Try.prog 44 #[.pointer (some ⟨b, 0, none⟩), .int .i64 n] w fun e w' => e = .returned (.int .u8 ((Fld.exp n : Nat) : Int)) ∧ w' = w := by
  obtain ⟨t1, t2, t3, t4⟩ := tmod255 n
  have HE : Hid (Fld.exp n = Fld.pwr (n % 255).toNat) := rfl
  by_cases hs : Int.tmod n 255 < 0
  · obtain ⟨m, hm⟩ : ∃ m : Nat, Int.tmod n 255 = (m : Int) - 255 := ⟨(Int.tmod n 255 + 255).toNat, by omega⟩
    have hm1 : Hid ((n % 255).toNat = m) := by unfold Hid; rw [t1 hs, hm]; omega
    have hm2 : m < 255 := by omega
    have b0 : (m : Int) < 255 := by omega
    have e1 : (m : Int) - 255 + 255 = (m : Int) := by omega
    have d0 : decide ((m : Int) - 255 < 0) = true := by simp; omega
    clear t1 t2 t3 t4 hs
    go_enter Try.func44, Try.ntmps44
    go_wp2_with fail
    refine (orNew_same b _).mono ?_
    rintro e w1 ⟨rfl, rfl⟩
    have c0 := (hh.cell m).trans (FC_pwr hm2)
    go_wp2_with fail
    go_ret
    exact ⟨by rw [HE.out, hm1.out]; rfl, rfl⟩
  · obtain ⟨m, hm⟩ : ∃ m : Nat, Int.tmod n 255 = (m : Int) := ⟨(Int.tmod n 255).toNat, by omega⟩
    have hm1 : Hid ((n % 255).toNat = m) := by unfold Hid; rw [t2 (by omega), hm]; omega
    have hm2 : m < 255 := by omega
    have b0 : (m : Int) < 255 := by omega
    have d0 : decide ((m : Int) < 0) = false := by simp
    clear t1 t2 t3 t4 hs
    go_enter Try.func44, Try.ntmps44
    go_wp2_with fail
    refine (orNew_same b _).mono ?_
    rintro e w1 ⟨rfl, rfl⟩
    have c0 := (hh.cell m).trans (FC_pwr hm2)
    go_wp2_with fail
    go_ret
    exact ⟨by rw [HE.out, hm1.out]; rfl, rfl⟩
theorem add_any (v : Value) (a b : Nat) (ha : a < 256) (hb : b < 256) (w : World) :
    Calls Try.prog 45 #[v, .int .u8 (a : Int), .int .u8 (b : Int)] w fun e w' => e = .returned (.int .u8 ((a ^^^ b : Nat) : Int)) ∧ Below w.heap.size w w' := by
  have x1 : Hid (bits .xor .u8 (a : Int) (b : Int) = ((a ^^^ b : Nat) : Int)) := u8_xor_nat a b ha hb
  go_enter Try.func45, Try.ntmps45
  go_wp2_with fail
  go_ret
  exact ⟨ret_int x1.out, Below.refl _ _⟩
theorem inv_any (v : Value) (a : Nat) (ha : a < 256) (w : World) (hf : IsF w v) :
    Calls Try.prog 32 #[v, .int .u8 (a : Int)] w fun e w' => e = .returned (.tuple #[.int .u8 ((if a = 0 then 0 else Fld.inv a : Nat) : Int), .bool (decide (a ≠ 0))]) ∧ Below w.heap.size w w' := by
  by_cases h0 : a = 0
  · subst h0
    go_enter Try.func32, Try.ntmps32
    go_wp2_with fail
    go_ret2
    exact ⟨rfl, Below.refl _ _⟩
  · have d0 : ((a : Int) == 0) = false := by rw [beq_eq_false_iff_ne]; omega
    have b0 : (a : Int) < 256 := by omega
    have l0 := Fld.lg_lt ha
    have HR : Hid (Ending.returned (.tuple #[.int .u8 ((if a = 0 then 0 else Fld.inv a : Nat) : Int), .bool (decide (a ≠ 0))]) = .returned (.tuple #[.int .u8 ((Fld.exp (-(Fld.lg a : Int)) : Nat) : Int), .bool true])) := by
      unfold Hid; rw [if_neg h0, decide_eq_true h0]; unfold Fld.inv Fld.exp
      rw [show ((-(Fld.lg a : Int)) % 255).toNat = (255 - Fld.lg a) % 255 by omega]
    rw [HR.out]
    go_enter Try.func32, Try.ntmps32
    go_wp2_with fail
    refine (orNew_any v _ hf).mono ?_
    rintro e w1 ⟨b, rfl, hh, hb⟩
    have c0 := (hh.cell (255 + a)).trans (FC_lg ha)
    go_wp2_with fail
    refine (exp_any _ _ _ (.inr ⟨b, rfl, hh⟩)).mono ?_
    rintro e w2 ⟨rfl, hb2⟩
    go_wp2_with fail
    go_ret2
    exact ⟨rfl, belowCall hb hb2⟩
theorem mul_any (v : Value) (a b : Nat) (ha : a < 256) (hb : b < 256) (w : World) (hf : IsF w v) :
    Calls Try.prog 46 #[v, .int .u8 (a : Int), .int .u8 (b : Int)] w fun e w' => e = .returned (.int .u8 ((Fld.mul a b : Nat) : Int)) ∧ Below w.heap.size w w' := by
  by_cases a0 : a = 0
  · subst a0
    rw [Fld.zero_mul]
    go_enter Try.func46, Try.ntmps46
    go_wp2_with fail
    go_ret
    exact ⟨rfl, Below.refl _ _⟩
  have da : ((a : Int) == 0) = false := by rw [beq_eq_false_iff_ne]; omega
  by_cases b0 : b = 0
  · subst b0
    rw [Fld.mul_zero]
    go_enter Try.func46, Try.ntmps46
    go_wp2_with fail
    go_ret
    exact ⟨rfl, Below.refl _ _⟩
  have db : ((b : Int) == 0) = false := by rw [beq_eq_false_iff_ne]; omega
  have la := Fld.lg_lt ha
  have lb := Fld.lg_lt hb
  have HR : Hid (Fld.mul a b = Fld.exp ((Fld.lg a : Int) + (Fld.lg b : Int))) := by
    unfold Hid; rw [Fld.mul_nz a0 b0]; unfold Fld.exp; congr 1
  have i0 : (a : Int) < 256 := by omega
  have i1 : (b : Int) < 256 := by omega
  rw [HR.out]
  go_enter Try.func46, Try.ntmps46
  go_wp2_with fail
  refine (orNew_any v _ hf).mono ?_
  rintro e w1 ⟨bl, rfl, hh, hb1⟩
  have c0 := (hh.cell (255 + a)).trans (FC_lg ha)
  have c1 := (hh.cell (255 + b)).trans (FC_lg hb)
  go_wp2_with fail
  go_quiet ((go_at_call 44; exact Calls.quiet_of_same (exp_same _ _ _ (by assumption))))
  go_wp2_with fail
  go_ret
  exact ⟨rfl, below_draws hb1 _⟩
end Go.Proofs.Ytfbjpgcgdhhfnaa
