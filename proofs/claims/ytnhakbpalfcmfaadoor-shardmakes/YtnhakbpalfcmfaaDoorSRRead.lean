/- The document's Read. -/
import Derived.Test.YtnhakbpalfcmfaaDoorSRead
import Derived.Test.YtnhakbpalfcmfaaDoorSRMake
namespace Go.Proofs.YtnhakbpalfcmfaaDoor
open Go.RowKit
/-- the memory of the document's Read: the object, and the shard that is told -/
structure RfW (a s : ByteArray) (w W : World) : Prop where
  ho : Has W w.heap.size #[.string a, .string s] 27
  hr : Has W (w.heap.size + 1) noS 33
  bl : Below w.heap.size w W
theorem RfW.start (w : World) (a s : ByteArray) : RfW a s w ((w.alloc (.cells #[.string a, .string s] 27)).alloc (.cells noS 33)) := by
  obtain ⟨h1, h2, h3, h4⟩ := two_new w #[.string a, .string s] noS 27 33
  exact ⟨h1, h2, h3⟩
theorem RfW.next {a s : ByteArray} {w W W' : World} (h : RfW a s w W) (hb : Below W.heap.size W W') : RfW a s w W' :=
  ⟨h.ho.below hb h.ho.lt, h.hr.below hb h.hr.lt, belowCall h.bl hb⟩
theorem RfW.put {a s : ByteArray} {w W : World} {b : Nat} (h : RfW a s w W) (hb : w.heap.size + 1 < b) (v0 v1 v2 v3 v4 : Value) : RfW a s w (((((W.setCell ⟨b, 0, none⟩ v0).setCell ⟨b, 1, none⟩ v1).setCell ⟨b, 2, none⟩ v2).setCell ⟨b, 3, none⟩ v3).setCell ⟨b, 4, none⟩ v4) :=
  ⟨((((h.ho.other _ _ (by show w.heap.size ≠ b; omega)).other _ _ (by show w.heap.size ≠ b; omega)).other _ _ (by show w.heap.size ≠ b; omega)).other _ _ (by show w.heap.size ≠ b; omega)).other _ _ (by show w.heap.size ≠ b; omega),
   ((((h.hr.other _ _ (by show w.heap.size + 1 ≠ b; omega)).other _ _ (by show w.heap.size + 1 ≠ b; omega)).other _ _ (by show w.heap.size + 1 ≠ b; omega)).other _ _ (by show w.heap.size + 1 ≠ b; omega)).other _ _ (by show w.heap.size + 1 ≠ b; omega),
   below_put5 h.bl (by omega) _ _ _ _ _⟩
/-- what the slots of the document's Read hold -/
def rv (n : Nat) (s : ByteArray) : Nat → Value
  | 12 => .pointer (some ⟨n, 1, none⟩)
  | 13 => .string s
  | 14 => .int .u8 ((bs s).getD 4 0 : Nat)
  | 15 => .int .i64 (fB s 4)
  | 16 => .pointer (some ⟨n, 1, none⟩)
  | 17 => .string s
  | 18 => .int .u8 ((bs s).getD 5 0 : Nat)
  | 19 => .int .i64 (fB s 5)
  | 20 => .agg #[.int .i64 (fB s 4), .int .i64 (fB s 5)]
  | 21 => .pointer (some ⟨n, 1, none⟩)
  | 22 => .string s
  | 23 => .string (fD s)
  | 24 => .pointer (some ⟨n, 1, none⟩)
  | 25 => .string s
  | 26 => .int .u8 ((bs s).getD 6 0 : Nat)
  | 27 => .int .i64 (fB s 6)
  | 28 => .pointer (some ⟨n, 1, none⟩)
  | 29 => .string s
  | 30 => .pointer (some ⟨n, 1, none⟩)
  | 31 => .string s
  | 32 => .int .i64 (s.size : Int)
  | 33 => .int .i64 ((s.size - 32 : Nat) : Int)
  | 34 => .string (fP s)
  | 35 => .agg (shc (fB s 4) (fB s 5) (fD s) (fB s 6) (fP s))
  | _ => undef
def rF (n : Nat) (s : ByteArray) (d : Nat) (v : Value) (W : World) : Prop :=
  match d with
  | 4 => ∃ b, v = .pointer (some ⟨b, 0, none⟩) ∧ Has W b noS 33 ∧ n + 1 < b
  | _ => v = rv n s d
theorem rF_mono (n : Nat) (s : ByteArray) (d : Nat) (v : Value) (w w' : World) (h : rF n s d v w) (hb : Below w.heap.size w w') : rF n s d v w' := by
  unfold rF at h ⊢
  split
  · obtain ⟨b, h1, h2, h3⟩ := h
    exact ⟨b, h1, h2.below hb h2.lt, h3⟩
  · rename_i hne
    split at h
    · exact absurd rfl (hne)
    · exact h
set_option maxRecDepth 20000 in
theorem refRead_short (a s : ByteArray) (h : s.size < 75) (w : World) :
    Calls Tryd.prog 10 #[obv a s] w fun e w' => e = .returned (.tuple #[.agg noS, .int .i64 4]) ∧ Below w.heap.size w w' := by
  unfold obv
  have q0 : (s.size : Int) < 75 := by omega
  go_enter Tryd.func10, Tryd.ntmps10
  obtain ⟨h1, h2, h3, h4⟩ := two_new w #[.string a, .string s] noS 27 33
  go_wp2_with fail
  exact ret_shard33 Tryd.results10 rfl rfl rfl h2 ⟨rfl, h3⟩
set_option maxRecDepth 20000 in
theorem refRead_mid (a s : ByteArray) (h1 : 75 ≤ s.size) (h2 : s.size ≤ 1000000) (w : World) :
    Calls Tryd.prog 10 #[obv a s] w fun e w' => e = .returned (rdV a s) ∧ Below w.heap.size w w' := by
  have q0 : ¬ (s.size : Int) < 75 := by omega
  have q32 : IntKind.i64.wrap ((s.size : Int) - 32) = ((s.size - 32 : Nat) : Int) := by rw [wrap_i64_of (by omega) (by omega)]; omega
  have HM : Hid (∀ w, Calls Tryd.prog 8 #[.agg (shc (fB s 4) (fB s 5) (fD s) (fB s 6) (fP s))] w fun e w' => e = .returned (.tuple #[.agg #[.string (mkN (fB s 4) (fB s 5) (fD s) (fB s 6) (fP s)), .string (mkD (fB s 4) (fB s 5) (fD s) (fB s 6) (fP s))], .int .i64 (mkE (fB s 4) (fB s 5) (fD s) (fB s 6) (fP s))]) ∧ Below w.heap.size w w') := fun w => refMake_any _ _ _ _ _ w
  have HR : Hid (rdV a s = if (mkE (fB s 4) (fB s 5) (fD s) (fB s 6) (fP s) = 0 ∧ mkN (fB s 4) (fB s 5) (fD s) (fB s 6) (fP s) = a ∧ mkD (fB s 4) (fB s 5) (fD s) (fB s 6) (fP s) = s) then .tuple #[.agg (shc (fB s 4) (fB s 5) (fD s) (fB s 6) (fP s)), .int .i64 0] else .tuple #[.agg noS, .int .i64 4]) := by
    unfold Hid rdV rdOk
    simp only [h1, decide_true, Bool.true_and, Bool.and_eq_true, decide_eq_true_eq]
  rw [HR.out]
  clear HR
  unfold obv
  go_enter Tryd.func10, Tryd.ntmps10
  go_wp2_with fail
  have R0 := RfW.start w a s
  refine Tl.wp_tail_lit (by kernel_rfl) 25 [12, 13, 14, 15, 16, 17, 18, 19, 20, 21, 22, 23, 24, 25, 26, 27, 28, 29, 30, 31, 32, 33, 34, 35, 4] 50 rfl (by kernel_rfl) (RfW a s w) (rF w.heap.size s) (rF_mono _ _) ⟨R0.ho.drew, R0.hr.drew, R0.bl.drew⟩
    ⟨fun a' W' hC hF => ?_, fun a' W' hC hF => ?_, fun a' W' hC hF => ?_, fun a' W' hC hF => ?_, fun a' W' hC hF => ?_, fun a' W' hC hF => ?_, fun a' W' hC hF => ?_, fun a' W' hC hF => ?_, fun a' W' hC hF => ?_, fun a' W' hC hF => ?_, fun a' W' hC hF => ?_, fun a' W' hC hF => ?_, fun a' W' hC hF => ?_, fun a' W' hC hF => ?_, fun a' W' hC hF => ?_, fun a' W' hC hF => ?_, fun a' W' hC hF => ?_, fun a' W' hC hF => ?_, fun a' W' hC hF => ?_, fun a' W' hC hF => ?_, fun a' W' hC hF => ?_, fun a' W' hC hF => ?_, fun a' W' hC hF => ?_, fun a' W' hC hF => ?_, fun a' W' hC hF => ?_, trivial⟩ ?_
  · exact Tl.st_v 12 _ rfl rfl hC rfl (rn_f27_1 rfl ((hF 1 (by decide +kernel)).2 (by decide)))
  · exact Tl.st_v 13 _ rfl rfl hC rfl (rn_load9 rfl ((hF 12 (by decide +kernel)).1 (by decide)) (obj_cells hC.ho).2.1)
  · exact Tl.st_v 14 _ rfl rfl hC rfl (rn_index9 (k := 4) rfl ((hF 13 (by decide +kernel)).1 (by decide)) rfl (by omega) rfl)
  · exact Tl.st_v 15 _ rfl rfl hC rfl (rn_c53 rfl ((hF 14 (by decide +kernel)).1 (by decide)) (fB_byte s 4).1 (fB_byte s 4).2)
  · exact Tl.st_v 16 _ rfl rfl hC rfl (rn_f27_1 rfl ((hF 1 (by decide +kernel)).2 (by decide)))
  · exact Tl.st_v 17 _ rfl rfl hC rfl (rn_load9 rfl ((hF 16 (by decide +kernel)).1 (by decide)) (obj_cells hC.ho).2.1)
  · exact Tl.st_v 18 _ rfl rfl hC rfl (rn_index9 (k := 5) rfl ((hF 17 (by decide +kernel)).1 (by decide)) rfl (by omega) rfl)
  · exact Tl.st_v 19 _ rfl rfl hC rfl (rn_c53 rfl ((hF 18 (by decide +kernel)).1 (by decide)) (fB_byte s 5).1 (fB_byte s 5).2)
  · exact Tl.st_v 20 _ rfl rfl hC rfl (rn_build23 rfl ((hF 15 (by decide +kernel)).1 (by decide)) ((hF 19 (by decide +kernel)).1 (by decide)))
  · exact Tl.st_v 21 _ rfl rfl hC rfl (rn_f27_1 rfl ((hF 1 (by decide +kernel)).2 (by decide)))
  · exact Tl.st_v 22 _ rfl rfl hC rfl (rn_load9 rfl ((hF 21 (by decide +kernel)).1 (by decide)) (obj_cells hC.ho).2.1)
  · exact Tl.st_v 23 _ rfl rfl hC rfl (rn_sl9 (lo := 11) (hi := 43) rfl ((hF 22 (by decide +kernel)).1 (by decide)) rfl rfl (by omega) (by omega))
  · exact Tl.st_v 24 _ rfl rfl hC rfl (rn_f27_1 rfl ((hF 1 (by decide +kernel)).2 (by decide)))
  · exact Tl.st_v 25 _ rfl rfl hC rfl (rn_load9 rfl ((hF 24 (by decide +kernel)).1 (by decide)) (obj_cells hC.ho).2.1)
  · exact Tl.st_v 26 _ rfl rfl hC rfl (rn_index9 (k := 6) rfl ((hF 25 (by decide +kernel)).1 (by decide)) rfl (by omega) rfl)
  · exact Tl.st_v 27 _ rfl rfl hC rfl (rn_c53 rfl ((hF 26 (by decide +kernel)).1 (by decide)) (fB_byte s 6).1 (fB_byte s 6).2)
  · exact Tl.st_v 28 _ rfl rfl hC rfl (rn_f27_1 rfl ((hF 1 (by decide +kernel)).2 (by decide)))
  · exact Tl.st_v 29 _ rfl rfl hC rfl (rn_load9 rfl ((hF 28 (by decide +kernel)).1 (by decide)) (obj_cells hC.ho).2.1)
  · exact Tl.st_v 30 _ rfl rfl hC rfl (rn_f27_1 rfl ((hF 1 (by decide +kernel)).2 (by decide)))
  · exact Tl.st_v 31 _ rfl rfl hC rfl (rn_load9 rfl ((hF 30 (by decide +kernel)).1 (by decide)) (obj_cells hC.ho).2.1)
  · exact Tl.st_v 32 _ rfl rfl hC rfl (rn_len9 rfl ((hF 31 (by decide +kernel)).1 (by decide)))
  · exact Tl.st_v 33 _ rfl rfl hC rfl (rn_subI rfl ((hF 32 (by decide +kernel)).1 (by decide)) rfl q32)
  · exact Tl.st_v 34 _ rfl rfl hC rfl (rn_sl9 (lo := 43) (hi := s.size - 32) rfl ((hF 29 (by decide +kernel)).1 (by decide)) rfl ((hF 33 (by decide +kernel)).1 (by decide)) (by omega) (by omega))
  · exact Tl.st_v 35 _ rfl rfl hC rfl (rn_build33 rfl ((hF 20 (by decide +kernel)).1 (by decide)) ((hF 23 (by decide +kernel)).1 (by decide)) ((hF 27 (by decide +kernel)).1 (by decide)) ((hF 34 (by decide +kernel)).1 (by decide)))
  · refine Tl.st_val 4 (.pointer (some ⟨W'.heap.size, 0, none⟩)) rfl (Tl.wanted_none rfl) (rn_alloc33 rfl) (hC.next ((Below.refl _ _).alloc (Nat.le_refl _) _)) ((Below.refl _ _).alloc (Nat.le_refl _) _) ?_
    exact ⟨W'.heap.size, rfl, Has.new _ _ _ _ rfl, hC.hr.lt⟩
  · intro v W' hC hv
    have v35 : v 35 = .agg (shc (fB s 4) (fB s 5) (fD s) (fB s 6) (fP s)) := hv 35 (by decide)
    obtain ⟨b, v4, hb, hlt⟩ : ∃ b, v 4 = .pointer (some ⟨b, 0, none⟩) ∧ Has W' b noS 33 ∧ w.heap.size + 1 < b := hv 4 (by decide)
    obtain ⟨c0, c1, c2, c3, c4, f0, f1, f2, f3, f4⟩ := noS_cells hb
    simp only [Tl.fill, v35, v4, shc]
    obtain ⟨X, hXe⟩ : ∃ X, Hid (mkN (fB s 4) (fB s 5) (fD s) (fB s 6) (fP s) = X) := ⟨_, rfl⟩
    obtain ⟨Y, hYe⟩ : ∃ Y, Hid (mkD (fB s 4) (fB s 5) (fD s) (fB s 6) (fP s) = Y) := ⟨_, rfl⟩
    obtain ⟨E, hEe⟩ : ∃ E, Hid (mkE (fB s 4) (fB s 5) (fD s) (fB s 6) (fP s) = E) := ⟨_, rfl⟩
    rw [hXe.out, hYe.out, hEe.out] at HM
    go_wp2_with fail
    refine (HM.out _).mono ?_
    rintro e w2 ⟨rfl, b2⟩
    have R3 := (hC.put hlt _ _ _ _ _).next b2
    have S2 := shc_put hb (fB s 4) (fB s 5) (fB s 6) (fD s) (fP s)
    have S3 : Has w2 b (shc (fB s 4) (fB s 5) (fD s) (fB s 6) (fP s)) 33 := S2.below b2 S2.lt
    clear b2 S2 c0 c1 c2 c3 c4 f0 f1 f2 f3 f4 HM hb R0
    have o0 := fun o => (obj_cells (R3.ho.alloc o)).1
    have o1 := fun o => (obj_cells (R3.ho.alloc o)).2.1
    have c0 := fun o => (noS_cells (R3.hr.alloc o)).1
    have c1 := fun o => (noS_cells (R3.hr.alloc o)).2.1
    have c2 := fun o => (noS_cells (R3.hr.alloc o)).2.2.1
    have c3 := fun o => (noS_cells (R3.hr.alloc o)).2.2.2.1
    have c4 := fun o => (noS_cells (R3.hr.alloc o)).2.2.2.2.1
    have f0 := fun o => (R3.hr.alloc o).frozen 0
    have f1 := fun o => (R3.hr.alloc o).frozen 1
    have f2 := fun o => (R3.hr.alloc o).frozen 2
    have f3 := fun o => (R3.hr.alloc o).frozen 3
    have f4 := fun o => (R3.hr.alloc o).frozen 4
    have s0 := fun o => (shc_cells (S3.alloc o)).1
    have s1 := fun o => (shc_cells (S3.alloc o)).2.1
    have s2 := fun o => (shc_cells (S3.alloc o)).2.2.1
    have s3 := fun o => (shc_cells (S3.alloc o)).2.2.2.1
    have s4 := fun o => (shc_cells (S3.alloc o)).2.2.2.2
    have R4 := fun o => R3.next (W' := w2.alloc o) ((Below.refl _ _).alloc (Nat.le_refl _) o)
    by_cases hE : E = 0
    · have qE : (E != 0) = false := by rw [hE]; rfl
      by_cases hX : X = a
      · have qX : (X.toList == a.toList) = true := by rw [hX]; simp
        by_cases hY : Y = s
        · have qY : (Y.toList == s.toList) = true := by rw [hY]; simp
          have HZ : Hid (mkE (fB s 4) (fB s 5) (fD s) (fB s 6) (fP s) = 0 ∧ mkN (fB s 4) (fB s 5) (fD s) (fB s 6) (fP s) = a ∧ mkD (fB s 4) (fB s 5) (fD s) (fB s 6) (fP s) = s) := ⟨hEe.out.trans hE, hXe.out.trans hX, hYe.out.trans hY⟩
          clear hE hX hY
          go_wp2_with fail
          exact ret_shard33 Tryd.results10 rfl rfl rfl (shc_put (R4 _).hr _ _ _ _ _) ⟨by first | rfl | (rw [if_pos HZ.out]; rfl), below_put5 (R4 _).bl (by omega) _ _ _ _ _⟩
        · have qY : (Y.toList == s.toList) = false := str_ne fun e => hY (bs_inj e)
          have HZ : Hid (¬ (mkE (fB s 4) (fB s 5) (fD s) (fB s 6) (fP s) = 0 ∧ mkN (fB s 4) (fB s 5) (fD s) (fB s 6) (fP s) = a ∧ mkD (fB s 4) (fB s 5) (fD s) (fB s 6) (fP s) = s)) := fun h => hY (hYe.out.symm.trans h.2.2)
          clear hE hX hY
          go_wp2_with fail
          exact ret_shard33 Tryd.results10 rfl rfl rfl (shc_put (R4 _).hr _ _ _ _ _) ⟨by first | rfl | (rw [if_neg HZ.out]; rfl), below_put5 (R4 _).bl (by omega) _ _ _ _ _⟩
      · have qX : (X.toList == a.toList) = false := str_ne fun e => hX (bs_inj e)
        have HZ : Hid (¬ (mkE (fB s 4) (fB s 5) (fD s) (fB s 6) (fP s) = 0 ∧ mkN (fB s 4) (fB s 5) (fD s) (fB s 6) (fP s) = a ∧ mkD (fB s 4) (fB s 5) (fD s) (fB s 6) (fP s) = s)) := fun h => hX (hXe.out.symm.trans h.2.1)
        clear hE hX
        go_wp2_with fail
        exact ret_shard33 Tryd.results10 rfl rfl rfl (shc_put (R4 _).hr _ _ _ _ _) ⟨by first | rfl | (rw [if_neg HZ.out]; rfl), below_put5 (R4 _).bl (by omega) _ _ _ _ _⟩
    · have qE : (E != 0) = true := by rw [bne_iff_ne]; exact hE
      have HZ : Hid (¬ (mkE (fB s 4) (fB s 5) (fD s) (fB s 6) (fP s) = 0 ∧ mkN (fB s 4) (fB s 5) (fD s) (fB s 6) (fP s) = a ∧ mkD (fB s 4) (fB s 5) (fD s) (fB s 6) (fP s) = s)) := fun h => hE (hEe.out.symm.trans h.1)
      clear hE
      go_wp2_with fail
      exact ret_shard33 Tryd.results10 rfl rfl rfl (shc_put (R4 _).hr _ _ _ _ _) ⟨by first | rfl | (rw [if_neg HZ.out]; rfl), below_put5 (R4 _).bl (by omega) _ _ _ _ _⟩
/-- THE DOCUMENT's READ. -/
theorem refRead_any (a s : ByteArray) (hs : s.size ≤ 1000000) (w : World) :
    Calls Tryd.prog 10 #[obv a s] w fun e w' => e = .returned (rdV a s) ∧ Below w.heap.size w w' := by
  by_cases h : 75 ≤ s.size
  · exact refRead_mid a s h hs w
  · have e : rdV a s = .tuple #[.agg noS, .int .i64 4] := by
      unfold rdV
      rw [if_neg]
      intro hk
      unfold rdOk at hk
      simp only [Bool.and_eq_true, decide_eq_true_eq] at hk
      exact h hk.1
    rw [e]
    exact refRead_short a s (by omega) w
end Go.Proofs.YtnhakbpalfcmfaaDoor
