/- The document's Read. Printed in part by gen_f8.py. -/
import Derived.Test.YtnepfllbfagfnaaDoorF7
namespace Go.Proofs.YtnepfllbfagfnaaDoor
open Go.RowKit
set_option maxRecDepth 20000 in
theorem refRead_long (s : ByteArray) (h : s.size < 50 ∨ 65536 < s.size) (w : World) :
    Calls Tryd.prog 16 #[.string s] w fun e w' => e = .returned (.tuple #[.agg noF, .int .i64 4]) ∧ Below w.heap.size w w' := by
  have T0 := RtW.start noF w
  go_enter Tryd.func16, Tryd.ntmps16
  by_cases q : s.size < 50
  · have q0 : (s.size : Int) < 50 := by omega
    go_wp2_with fail
    exact ret_frame41 Tryd.results16 rfl rfl rfl T0.hs ⟨rfl, T0.bl⟩
  · have q0 : ¬ (s.size : Int) < 50 := by omega
    have q1 : (65536 : Int) < (s.size : Int) := by omega
    go_wp2_with fail
    exact ret_frame41 Tryd.results16 rfl rfl rfl T0.hs ⟨rfl, T0.bl⟩
def rv (s : ByteArray) (E G : Int) (a b : Nat) (p : ByteArray) : Nat → Value
  | 16 => .string s
  | 17 => .int .i64 E
  | 18 => .string s
  | 19 => .int .i64 G
  | 20 => .agg #[.int .i64 E, .int .i64 G]
  | 21 => .string s
  | 22 => .int .u8 ((a : Nat) : Int)
  | 23 => .int .i64 ((a : Nat) : Int)
  | 24 => .string s
  | 25 => .int .u8 ((b : Nat) : Int)
  | 26 => .int .i64 ((b : Nat) : Int)
  | 27 => .agg #[.int .i64 ((a : Nat) : Int), .int .i64 ((b : Nat) : Int)]
  | 28 => .string s
  | 29 => .string s
  | 30 => .int .i64 (s.size : Int)
  | 31 => .int .i64 ((s.size - 32 : Nat) : Int)
  | 32 => .string p
  | 33 => .agg (frc E G (a : Int) (b : Int) p)
  | _ => undef
def rF (n : Nat) (s : ByteArray) (E G : Int) (a b : Nat) (p : ByteArray) (d : Nat) (v : Value) (W : World) : Prop :=
  match d with
  | 4 => ∃ k, v = .pointer (some ⟨k, 0, none⟩) ∧ Has W k noF 41 ∧ n < k
  | _ => v = rv s E G a b p d
theorem rF_mono (n : Nat) (s : ByteArray) (E G : Int) (a b : Nat) (p : ByteArray) (d : Nat) (v : Value) (w w' : World) (h : rF n s E G a b p d v w) (hb : Below w.heap.size w w') : rF n s E G a b p d v w' := by
  unfold rF at h ⊢
  split
  · obtain ⟨k, h1, h2, h3⟩ := h
    exact ⟨k, h1, h2.below hb h2.lt, h3⟩
  · rename_i hne
    split at h
    · exact absurd rfl (hne)
    · exact h
theorem RtW.put {c : Array Value} {w W : World} {b : Nat} (h : RtW c w W) (hb : w.heap.size < b) (v0 v1 v2 v3 v4 : Value) : RtW c w (((((W.setCell ⟨b, 0, none⟩ v0).setCell ⟨b, 1, none⟩ v1).setCell ⟨b, 2, none⟩ v2).setCell ⟨b, 3, none⟩ v3).setCell ⟨b, 4, none⟩ v4) :=
  ⟨((((h.hs.other _ _ (by show w.heap.size ≠ b; omega)).other _ _ (by show w.heap.size ≠ b; omega)).other _ _ (by show w.heap.size ≠ b; omega)).other _ _ (by show w.heap.size ≠ b; omega)).other _ _ (by show w.heap.size ≠ b; omega), below_put5 h.bl (by omega) _ _ _ _ _⟩
section
variable {ev : Operand → Value} {o : Oper} {w : World} {x y : Operand}
theorem rn_sl9x {A p : ByteArray} {z : Operand} {lo hi : Nat} (ho : o.op = .slice 9 x (some y) (some z) none) (hx : ev x = .string A) (hy : ev y = .int .i64 (lo : Int)) (hz : ev z = .int .i64 (hi : Int)) (h1 : lo ≤ hi) (h2 : hi ≤ A.size) (hp : Hid (A.extract lo hi = p)) : (execOp ev o).run Tryd.prog w = .ok (.value (.string p)) w := by
  have := rn_sl9 (w := w) ho hx hy hz h1 h2
  rw [hp.out] at this
  exact this
end
set_option maxRecDepth 20000 in
set_option maxHeartbeats 1000000 in
theorem refRead_aux (s : ByteArray) (h1 : 50 ≤ s.size) (h2 : s.size ≤ 65536) (E G : Int) (a b : Nat) (p Y : ByteArray) (R : Int) (ha : a < 256) (hb : b < 256)
    (HE : Hid (∀ W, Calls Tryd.prog 27 #[.string s, .int .i64 4] W fun e w' => e = .returned (.int .i64 E) ∧ Below W.heap.size W w')) (HG : Hid (∀ W, Calls Tryd.prog 27 #[.string s, .int .i64 8] W fun e w' => e = .returned (.int .i64 G) ∧ Below W.heap.size W w'))
    (ea : (bs s).getD 12 0 = a) (eb : (bs s).getD 13 0 = b) (hp : Hid (s.extract 18 (s.size - 32) = p))
    (HM : Hid (∀ W, Calls Tryd.prog 12 #[.agg (frc E G a b p)] W fun e w' => e = .returned (.tuple #[.string Y, .int .i64 R]) ∧ Below W.heap.size W w')) (w : World) :
    Calls Tryd.prog 16 #[.string s] w fun e w' => e = .returned (if (R = 0 ∧ Y = s) then .tuple #[.agg (frc E G a b p), .int .i64 0] else .tuple #[.agg noF, .int .i64 4]) ∧ Below w.heap.size w w' := by
  have q0 : ¬ (s.size : Int) < 50 := by omega
  have q1 : ¬ (65536 : Int) < (s.size : Int) := by omega
  have q32 : IntKind.i64.wrap ((s.size : Int) - 32) = ((s.size - 32 : Nat) : Int) := by rw [wrap_i64_of (by omega) (by omega)]; omega
  have T0 := RtW.start noF w
  go_enter Tryd.func16, Tryd.ntmps16
  go_wp2_with fail
  refine Tl.wp_tail_lit (by kernel_rfl) 19 [16, 17, 18, 19, 20, 21, 22, 23, 24, 25, 26, 27, 28, 29, 30, 31, 32, 33, 4] 48 rfl (by kernel_rfl) (RtW noF w) (rF w.heap.size s E G a b p) (rF_mono _ _ _ _ _ _ _) T0.drew
    ⟨fun a' W' hC hF => ?_, fun a' W' hC hF => ?_, fun a' W' hC hF => ?_, fun a' W' hC hF => ?_, fun a' W' hC hF => ?_, fun a' W' hC hF => ?_, fun a' W' hC hF => ?_, fun a' W' hC hF => ?_, fun a' W' hC hF => ?_, fun a' W' hC hF => ?_, fun a' W' hC hF => ?_, fun a' W' hC hF => ?_, fun a' W' hC hF => ?_, fun a' W' hC hF => ?_, fun a' W' hC hF => ?_, fun a' W' hC hF => ?_, fun a' W' hC hF => ?_, fun a' W' hC hF => ?_, fun a' W' hC hF => ?_, trivial⟩ ?_
  · exact Tl.st_v 16 _ rfl rfl hC rfl (rn_move rfl ((hF 0 (by decide +kernel)).2 (by decide)))
  · exact Tl.st_call 17 27 _ rfl (Tl.wanted_none rfl) (rn_call2 rfl rfl ((hF 16 (by decide +kernel)).1 (by decide)) rfl (enter27 _)) ((HE.out W').mono fun e w'' h => ⟨_, h.1, hC.next h.2, h.2, rfl⟩)
  · exact Tl.st_v 18 _ rfl rfl hC rfl (rn_move rfl ((hF 0 (by decide +kernel)).2 (by decide)))
  · exact Tl.st_call 19 27 _ rfl (Tl.wanted_none rfl) (rn_call2 rfl rfl ((hF 18 (by decide +kernel)).1 (by decide)) rfl (enter27 _)) ((HG.out W').mono fun e w'' h => ⟨_, h.1, hC.next h.2, h.2, rfl⟩)
  · exact Tl.st_v 20 _ rfl rfl hC rfl (rn_build24 rfl ((hF 17 (by decide +kernel)).1 (by decide)) ((hF 19 (by decide +kernel)).1 (by decide)))
  · exact Tl.st_v 21 _ rfl rfl hC rfl (rn_move rfl ((hF 0 (by decide +kernel)).2 (by decide)))
  · exact Tl.st_v 22 _ rfl rfl hC rfl (rn_index9 (k := 12) rfl ((hF 21 (by decide +kernel)).1 (by decide)) rfl (by omega) ea)
  · exact Tl.st_v 23 _ rfl rfl hC rfl (rn_c53 rfl ((hF 22 (by decide +kernel)).1 (by decide)) (by omega) (by omega))
  · exact Tl.st_v 24 _ rfl rfl hC rfl (rn_move rfl ((hF 0 (by decide +kernel)).2 (by decide)))
  · exact Tl.st_v 25 _ rfl rfl hC rfl (rn_index9 (k := 13) rfl ((hF 24 (by decide +kernel)).1 (by decide)) rfl (by omega) eb)
  · exact Tl.st_v 26 _ rfl rfl hC rfl (rn_c53 rfl ((hF 25 (by decide +kernel)).1 (by decide)) (by omega) (by omega))
  · exact Tl.st_v 27 _ rfl rfl hC rfl (rn_build26 rfl ((hF 23 (by decide +kernel)).1 (by decide)) ((hF 26 (by decide +kernel)).1 (by decide)))
  · exact Tl.st_v 28 _ rfl rfl hC rfl (rn_move rfl ((hF 0 (by decide +kernel)).2 (by decide)))
  · exact Tl.st_v 29 _ rfl rfl hC rfl (rn_move rfl ((hF 0 (by decide +kernel)).2 (by decide)))
  · exact Tl.st_v 30 _ rfl rfl hC rfl (rn_len9 rfl ((hF 29 (by decide +kernel)).1 (by decide)) )
  · exact Tl.st_v 31 _ rfl rfl hC rfl (rn_subI rfl ((hF 30 (by decide +kernel)).1 (by decide)) rfl q32)
  · exact Tl.st_v 32 _ rfl rfl hC rfl (rn_sl9x (lo := 18) (hi := s.size - 32) rfl ((hF 28 (by decide +kernel)).1 (by decide)) rfl ((hF 31 (by decide +kernel)).1 (by decide)) (by omega) (by omega) hp)
  · exact Tl.st_v 33 _ rfl rfl hC rfl (rn_build41 rfl ((hF 20 (by decide +kernel)).1 (by decide)) ((hF 27 (by decide +kernel)).1 (by decide)) ((hF 32 (by decide +kernel)).1 (by decide)))
  · refine Tl.st_val 4 (.pointer (some ⟨W'.heap.size, 0, none⟩)) rfl (Tl.wanted_none rfl) (rn_alloc41 rfl) (hC.next ((Below.refl _ _).alloc (Nat.le_refl _) _)) ((Below.refl _ _).alloc (Nat.le_refl _) _) ?_
    exact ⟨W'.heap.size, rfl, Has.new _ _ _ _ rfl, hC.hs.lt⟩
  · intro v W' hC hv
    have v33 : v 33 = .agg (frc E G a b p) := hv 33 (by decide)
    obtain ⟨k, v4, hk, hlt⟩ : ∃ k, v 4 = .pointer (some ⟨k, 0, none⟩) ∧ Has W' k noF 41 ∧ w.heap.size < k := hv 4 (by decide)
    obtain ⟨c0, c1, c2, c3, c4⟩ := frc_cells hk
    obtain ⟨f0, f1, f2, f3, f4⟩ := frc_free hk
    simp only [Tl.fill, v33, v4, frc]
    go_wp2_with fail
    refine (HM.out _).mono ?_
    rintro e w2 ⟨rfl, b2⟩
    have R3 := (hC.put hlt _ _ _ _ _).next b2
    have S2 := frc_put hk E G a b p
    have S3 : Has w2 k (frc E G a b p) 41 := S2.below b2 S2.lt
    clear b2 S2 c0 c1 c2 c3 c4 f0 f1 f2 f3 f4 HM hk T0 HE HG hp
    obtain ⟨c0, c1, c2, c3, c4⟩ := frc_cells R3.hs
    obtain ⟨f0, f1, f2, f3, f4⟩ := frc_free R3.hs
    obtain ⟨s0, s1, s2, s3, s4⟩ := frc_cells S3
    by_cases hE : R = 0
    · have qE : (R != 0) = false := by rw [hE]; rfl
      by_cases hY : Y = s
      · have qY : (Y.toList == s.toList) = true := by rw [hY]; simp
        have HZ : Hid (R = 0 ∧ Y = s) := ⟨hE, hY⟩
        clear hE hY
        go_wp2_with fail
        exact ret_frame41 Tryd.results16 rfl rfl rfl (frc_put R3.hs _ _ _ _ _) ⟨by first | rfl | (rw [if_pos HZ.out]; rfl), below_put5 R3.bl (by omega) _ _ _ _ _⟩
      · have qY : (Y.toList == s.toList) = false := str_ne fun e => hY (bs_inj e)
        have HZ : Hid (¬ (R = 0 ∧ Y = s)) := fun h => hY h.2
        clear hE hY
        go_wp2_with fail
        exact ret_frame41 Tryd.results16 rfl rfl rfl (frc_put R3.hs _ _ _ _ _) ⟨by first | rfl | (rw [if_neg HZ.out]; rfl), below_put5 R3.bl (by omega) _ _ _ _ _⟩
    · have qE : (R != 0) = true := by rw [bne_iff_ne]; exact hE
      have HZ : Hid (¬ (R = 0 ∧ Y = s)) := fun h => hE h.1
      clear hE
      go_wp2_with fail
      exact ret_frame41 Tryd.results16 rfl rfl rfl (frc_put R3.hs _ _ _ _ _) ⟨by first | rfl | (rw [if_neg HZ.out]; rfl), below_put5 R3.bl (by omega) _ _ _ _ _⟩
/-- THE DOCUMENT's READ. -/
theorem refRead_any (s : ByteArray) (w : World) :
    Calls Tryd.prog 16 #[.string s] w fun e w' => e = .returned (rdV s) ∧ Below w.heap.size w w' := by
  by_cases h : 50 ≤ s.size ∧ s.size ≤ 65536
  · have := refRead_aux s h.1 h.2 (fN s 4) (fN s 8) _ _ (fP s) _ _ (getD_lt _ 256 (by decide) (bs_lt s) 12) (getD_lt _ 256 (by decide) (bs_lt s) 13) (fun W => at_any s 4 (by omega) (by omega) W) (fun W => at_any s 8 (by omega) (by omega) W) rfl rfl rfl (fun W => refMake_any _ _ _ _ _ W) w
    have HR : rdV s = if (mkE (fN s 4) (fN s 8) (fB s 12) (fB s 13) (fP s) = 0 ∧ mkD (fN s 4) (fN s 8) (fB s 12) (fB s 13) (fP s) = s) then .tuple #[.agg (frc (fN s 4) (fN s 8) (fB s 12) (fB s 13) (fP s)), .int .i64 0] else .tuple #[.agg noF, .int .i64 4] := by
      unfold rdV rdOk
      simp only [h.1, decide_true, Bool.true_and, Bool.and_eq_true, decide_eq_true_eq]
    rw [HR]
    exact this
  · have e : rdV s = .tuple #[.agg noF, .int .i64 4] := by
      unfold rdV
      rw [if_neg]
      exact fun hk => h (rd_size hk)
    rw [e]
    exact refRead_long s (by omega) w
end Go.Proofs.YtnepfllbfagfnaaDoor
