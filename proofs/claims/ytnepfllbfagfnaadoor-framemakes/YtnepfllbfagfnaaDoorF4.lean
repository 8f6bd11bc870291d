/- The contracts of written and Make: a frame's bytes. Printed in part by gen_f4.py. -/
import Derived.Test.YtnepfllbfagfnaaDoorF3
namespace Go.Proofs.YtnepfllbfagfnaaDoor
open Go.RowKit
section
variable {ev : Operand → Value} {o : Oper} {w : World} {x y : Operand}
theorem rn_f28_0 {g : Nat} (ho : o.op = .fieldAddr 28 x 0) (hx : ev x = .pointer (some ⟨g, 0, none⟩)) : (execOp ev o).run Tryd.prog w = .ok (.value (.pointer (some ⟨g, 0, none⟩))) w := by
  simp [execOp, ho, hx, go_sem]
theorem rn_f28_1 {g : Nat} (ho : o.op = .fieldAddr 28 x 1) (hx : ev x = .pointer (some ⟨g, 0, none⟩)) : (execOp ev o).run Tryd.prog w = .ok (.value (.pointer (some ⟨g, 2, none⟩))) w := by
  simp [execOp, ho, hx, go_sem]
theorem rn_f28_2 {g : Nat} (ho : o.op = .fieldAddr 28 x 2) (hx : ev x = .pointer (some ⟨g, 0, none⟩)) : (execOp ev o).run Tryd.prog w = .ok (.value (.pointer (some ⟨g, 4, none⟩))) w := by
  simp [execOp, ho, hx, go_sem]
theorem rn_f41_0 {g : Nat} (ho : o.op = .fieldAddr 41 x 0) (hx : ev x = .pointer (some ⟨g, 0, none⟩)) : (execOp ev o).run Tryd.prog w = .ok (.value (.pointer (some ⟨g, 0, none⟩))) w := by
  simp [execOp, ho, hx, go_sem]
theorem rn_f41_1 {g : Nat} (ho : o.op = .fieldAddr 41 x 1) (hx : ev x = .pointer (some ⟨g, 0, none⟩)) : (execOp ev o).run Tryd.prog w = .ok (.value (.pointer (some ⟨g, 2, none⟩))) w := by
  simp [execOp, ho, hx, go_sem]
theorem rn_f41_2 {g : Nat} (ho : o.op = .fieldAddr 41 x 2) (hx : ev x = .pointer (some ⟨g, 0, none⟩)) : (execOp ev o).run Tryd.prog w = .ok (.value (.pointer (some ⟨g, 4, none⟩))) w := by
  simp [execOp, ho, hx, go_sem]
theorem rn_f24_0 {g k : Nat} (ho : o.op = .fieldAddr 24 x 0) (hx : ev x = .pointer (some ⟨g, k, none⟩)) : (execOp ev o).run Tryd.prog w = .ok (.value (.pointer (some ⟨g, k, none⟩))) w := by
  simp [execOp, ho, hx, go_sem]
theorem rn_f24_1 {g k : Nat} (ho : o.op = .fieldAddr 24 x 1) (hx : ev x = .pointer (some ⟨g, k, none⟩)) : (execOp ev o).run Tryd.prog w = .ok (.value (.pointer (some ⟨g, k + 1, none⟩))) w := by
  simp [execOp, ho, hx, go_sem]
theorem rn_f26_0 {g k : Nat} (ho : o.op = .fieldAddr 26 x 0) (hx : ev x = .pointer (some ⟨g, k, none⟩)) : (execOp ev o).run Tryd.prog w = .ok (.value (.pointer (some ⟨g, k, none⟩))) w := by
  simp [execOp, ho, hx, go_sem]
theorem rn_f26_1 {g k : Nat} (ho : o.op = .fieldAddr 26 x 1) (hx : ev x = .pointer (some ⟨g, k, none⟩)) : (execOp ev o).run Tryd.prog w = .ok (.value (.pointer (some ⟨g, k + 1, none⟩))) w := by
  simp [execOp, ho, hx, go_sem]
theorem rn_add9 {u v z : ByteArray} (ho : o.op = .binOp .add 9 x y 9) (hx : ev x = .string u) (hy : ev y = .string v) (hz : u ++ v = z) (h : ¬ 9223372036854775807 < u.size + v.size) : (execOp ev o).run Tryd.prog w = .ok (.value (.string z)) w := by
  subst hz
  simp [execOp, ho, hx, hy, go_sem, h]
theorem enter28 (args : Array Value) : (callFunc 28 args).run Tryd.prog w = .ok (.enter 28 args) w := by kernel_rfl
theorem enter25 (args : Array Value) : (callFunc 25 args).run Tryd.prog w = .ok (.enter 25 args) w := by kernel_rfl
theorem enter27 (args : Array Value) : (callFunc 27 args).run Tryd.prog w = .ok (.enter 27 args) w := by kernel_rfl
theorem enter11 (args : Array Value) : (callFunc 11 args).run Tryd.prog w = .ok (.enter 11 args) w := by kernel_rfl
theorem enter13 (args : Array Value) : (callFunc 13 args).run Tryd.prog w = .ok (.enter 13 args) w := by kernel_rfl
theorem enter14 (args : Array Value) : (callFunc 14 args).run Tryd.prog w = .ok (.enter 14 args) w := by kernel_rfl
theorem enter8 (args : Array Value) : (callFunc 8 args).run Tryd.prog w = .ok (.enter 8 args) w := by kernel_rfl
theorem enter9 (args : Array Value) : (callFunc 9 args).run Tryd.prog w = .ok (.enter 9 args) w := by kernel_rfl
theorem enter10 (args : Array Value) : (callFunc 10 args).run Tryd.prog w = .ok (.enter 10 args) w := by kernel_rfl
end
set_option maxRecDepth 20000 in
theorem of_any (E G K N : Int) (p : ByteArray) (w : World) : Calls Tryd.prog 8 #[.int .i64 E, .int .i64 G, .int .i64 K, .int .i64 N, .string p] w fun e w' => e = .returned (.agg (frc E G K N p)) ∧ Below w.heap.size w w' := by
  unfold frc
  go_enter Tryd.func8, Tryd.ntmps8
  go_wp2_with fail
  exact ret_one28 Tryd.results8 rfl rfl (Has.new _ _ (frc E G K N p) _ rfl) ⟨rfl, (Below.refl _ _).alloc (Nat.le_refl _) _⟩
/-- the memory of written: the frame -/
structure WtW (c : Array Value) (w W : World) : Prop where
  hs : Has W w.heap.size c 28
  bl : Below w.heap.size w W
theorem WtW.next {c : Array Value} {w W W' : World} (h : WtW c w W) (hb : Below W.heap.size W W') : WtW c w W' :=
  ⟨h.hs.below hb h.hs.lt, belowCall h.bl hb⟩
theorem WtW.drew {c : Array Value} {w W : World} (h : WtW c w W) : WtW c w W.drew := ⟨h.hs.drew, h.bl.drew⟩
/-- two bytes that were made, as a string -/
theorem conv2 (K N : Nat) (w : World) : (convert 32 9 (.slice (some ⟨w.heap.size, 0, none⟩) 2 2)).run Tryd.prog (w.alloc (.cells #[.int .u8 (K : Int), .int .u8 (N : Int)] 5)) = .ok (.string (ofBs [K, N])) (w.alloc (.cells #[.int .u8 (K : Int), .int .u8 (N : Int)] 5)) :=
  conv_str _ _ [K, N] 5 2 (Has.new _ _ _ _ rfl)
/-- what the slots of written hold -/
def wv1 (n E G : Nat) (A B AB : ByteArray) : Nat → Value
  | 6 => .pointer (some ⟨n, 0, none⟩)
  | 7 => .pointer (some ⟨n, 0, none⟩)
  | 8 => .int .i64 (E : Int)
  | 9 => .string A
  | 10 => .pointer (some ⟨n, 0, none⟩)
  | 11 => .pointer (some ⟨n, 1, none⟩)
  | 12 => .int .i64 (G : Int)
  | 13 => .string B
  | 14 => .string AB
  | 3 => .string AB
  | _ => undef
def wv3 (n : Nat) (AB C D p S1 S2 S3 S4 : ByteArray) : Nat → Value
  | 25 => .string AB
  | 26 => .string S1
  | 27 => .string C
  | 28 => .string S2
  | 29 => .pointer (some ⟨n, 4, none⟩)
  | 30 => .string p
  | 31 => .int .i64 (p.size : Int)
  | 32 => .string D
  | 33 => .string S3
  | 34 => .pointer (some ⟨n, 4, none⟩)
  | 35 => .string p
  | 36 => .string S4
  | 5 => .string S4
  | _ => undef
set_option maxRecDepth 20000 in
theorem written_aux (E G K N : Nat) (p : ByteArray) (hE : E < 2147483648) (hG : G < 2147483648) (hK : K < 256) (hN : N < 256) (hp : p.size ≤ 65536) (w : World) (ht : Tabs w)
    (A B AB C D S1 S2 S3 S4 X Y : ByteArray) (eA : Hid (ofBs (be4 E) = A)) (eB : Hid (ofBs (be4 G) = B)) (eAB : A ++ B = AB) (eC : Hid (ofBs [K, N] = C)) (eD : Hid (ofBs (be4 p.size) = D))
    (e1 : ⟨#[109, 97, 110, 49]⟩ ++ AB = S1) (e2 : S1 ++ C = S2) (e3 : S2 ++ D = S3) (e4 : S3 ++ p = S4) (eX : Hid (ofBs (Sha.digest (bs S4)) = X)) (eY : Hid (S4 ++ X = Y)) :
    Calls Tryd.prog 19 #[.agg (frc E G K N p)] w fun e w' => e = .returned (.string Y) ∧ Below w.heap.size w w' := by
  have HA : Hid (∀ W, Calls Tryd.prog 28 #[.int .i64 (E : Int)] W fun e w' => e = .returned (.string A) ∧ Below W.heap.size W w') := fun W => by have := four_any E hE W; rw [eA.out] at this; exact this
  have HB : Hid (∀ W, Calls Tryd.prog 28 #[.int .i64 (G : Int)] W fun e w' => e = .returned (.string B) ∧ Below W.heap.size W w') := fun W => by have := four_any G hG W; rw [eB.out] at this; exact this
  have HD : Hid (∀ W, Calls Tryd.prog 28 #[.int .i64 (p.size : Int)] W fun e w' => e = .returned (.string D) ∧ Below W.heap.size W w') := fun W => by have := four_any p.size (by omega) W; rw [eD.out] at this; exact this
  have HC : ∀ w : World, (convert 32 9 (.slice (some ⟨w.heap.size, 0, none⟩) 2 2)).run Tryd.prog (w.alloc (.cells #[.int .u8 (K : Int), .int .u8 (N : Int)] 5)) = .ok (.string C) (w.alloc (.cells #[.int .u8 (K : Int), .int .u8 (N : Int)] 5)) := fun w => by have := conv2 K N w; rw [eC.out] at this; exact this
  have zA : A.size = 4 := by rw [← eA.out, ofBs_size]; rfl
  have zB : B.size = 4 := by rw [← eB.out, ofBs_size]; rfl
  have zD : D.size = 4 := by rw [← eD.out, ofBs_size]; rfl
  have zC : C.size = 2 := by rw [← eC.out, ofBs_size]; rfl
  have zX : X.size = 32 := by rw [← eX.out, ofBs_size, digest_length]
  have zAB : AB.size = 8 := by rw [← eAB, ByteArray.size_append]; omega
  have z1 : S1.size = 12 := by rw [← e1, ByteArray.size_append, zAB]; rfl
  have z2 : S2.size = 14 := by rw [← e2, ByteArray.size_append]; omega
  have z3 : S3.size = 18 := by rw [← e3, ByteArray.size_append]; omega
  have z4 : S4.size = 18 + p.size := by rw [← e4, ByteArray.size_append]; omega
  have HS : Hid (∀ W, Tabs W → Calls Tryd.prog 11 #[.string S4] W fun e w' => e = .returned (.string X) ∧ Below W.heap.size W w') := fun W h => by
    have := sum_any W h S4 (by omega); rw [eX.out] at this; exact this
  have m0 : (⟨#[109, 97, 110, 49]⟩ : ByteArray).size = 4 := rfl
  have s1 : ¬ 9223372036854775807 < A.size + B.size := by omega
  have s2 : ¬ 9223372036854775807 < (⟨#[109, 97, 110, 49]⟩ : ByteArray).size + AB.size := by omega
  have s3 : ¬ 9223372036854775807 < S1.size + C.size := by omega
  have s4 : ¬ 9223372036854775807 < S2.size + D.size := by omega
  have s5 : ¬ 9223372036854775807 < S3.size + p.size := by omega
  have s6 : ¬ 9223372036854775807 < S4.size + X.size := by omega
  clear zA zB zC zD zX zAB z1 z2 z3 z4 m0 eA eB eC eD eX
  have k1 : (K : Int) < 256 := by omega
  have k2 : (N : Int) < 256 := by omega
  unfold frc
  go_enter Tryd.func19, Tryd.ntmps19
  go_wp2_with fail
  have T0 : WtW (frc E G K N p) w (w.alloc (.cells (frc E G K N p) 28)) := ⟨Has.new _ _ _ _ rfl, (Below.refl _ _).alloc (Nat.le_refl _) _⟩
  refine Tl.wp_tail_lit (by kernel_rfl) 10 [6, 7, 8, 9, 10, 11, 12, 13, 14, 3] 41 rfl (by kernel_rfl) (WtW (frc E G K N p) w) (fun d v _ => v = wv1 w.heap.size E G A B AB d) (fun _ _ _ _ h _ => h) T0.drew
    ⟨fun a' W' hC hF => ?_, fun a' W' hC hF => ?_, fun a' W' hC hF => ?_, fun a' W' hC hF => ?_, fun a' W' hC hF => ?_, fun a' W' hC hF => ?_, fun a' W' hC hF => ?_, fun a' W' hC hF => ?_, fun a' W' hC hF => ?_, fun a' W' hC hF => ?_, trivial⟩ ?_
  · exact Tl.st_v 6 _ rfl rfl hC rfl (rn_f28_0 rfl ((hF 1 (by decide +kernel)).2 (by decide)))
  · exact Tl.st_v 7 _ rfl rfl hC rfl (rn_f24_0 rfl ((hF 6 (by decide +kernel)).1 (by decide)))
  · exact Tl.st_v 8 _ rfl rfl hC rfl (rn_load3 rfl ((hF 7 (by decide +kernel)).1 (by decide)) (frc_cells hC.hs).1)
  · exact Tl.st_call 9 28 _ rfl (Tl.wanted_none rfl) (rn_call1 rfl rfl ((hF 8 (by decide +kernel)).1 (by decide)) (enter28 _)) ((HA.out W').mono fun e w'' h => ⟨_, h.1, hC.next h.2, h.2, rfl⟩)
  · exact Tl.st_v 10 _ rfl rfl hC rfl (rn_f28_0 rfl ((hF 1 (by decide +kernel)).2 (by decide)))
  · exact Tl.st_v 11 _ rfl rfl hC rfl (rn_f24_1 rfl ((hF 10 (by decide +kernel)).1 (by decide)))
  · exact Tl.st_v 12 _ rfl rfl hC rfl (rn_load3 rfl ((hF 11 (by decide +kernel)).1 (by decide)) (frc_cells hC.hs).2.1)
  · exact Tl.st_call 13 28 _ rfl (Tl.wanted_none rfl) (rn_call1 rfl rfl ((hF 12 (by decide +kernel)).1 (by decide)) (enter28 _)) ((HB.out W').mono fun e w'' h => ⟨_, h.1, hC.next h.2, h.2, rfl⟩)
  · exact Tl.st_v 14 _ rfl rfl hC rfl (rn_add9 rfl ((hF 9 (by decide +kernel)).1 (by decide)) ((hF 13 (by decide +kernel)).1 (by decide)) eAB s1)
  · exact Tl.st_v 3 _ rfl rfl hC rfl (rn_assign rfl ((hF 14 (by decide +kernel)).1 (by decide)))
  · intro v W1 T1 hv
    have v3 : v 3 = .string AB := hv 3 (by decide)
    obtain ⟨c0, c1, c2, c3, c4⟩ := frc_cells T1.hs
    clear hv T0 HA HB s1
    simp only [Tl.fill, v3, List.drop_succ_cons, List.drop_zero, wpList]
    simp only [Act.put, List.setIfInBounds_toArray, List.set_cons_succ, List.set_cons_zero]
    go_wp2_with fail
    have T2 := T1.next ((Below.refl _ _).alloc (Nat.le_refl _) (.cells #[.int .u8 (K : Int), .int .u8 (N : Int)] 5))
    clear T1 c0 c1 c2 c3 c4
    refine Tl.wp_tail_lit (by kernel_rfl) 13 [25, 26, 27, 28, 29, 30, 31, 32, 33, 34, 35, 36, 5] 41 rfl (by kernel_rfl) (WtW (frc E G K N p) w) (fun d v _ => v = wv3 w.heap.size AB C D p S1 S2 S3 S4 d) (fun _ _ _ _ h _ => h) T2.drew
      ⟨fun a' W' hC hF => ?_, fun a' W' hC hF => ?_, fun a' W' hC hF => ?_, fun a' W' hC hF => ?_, fun a' W' hC hF => ?_, fun a' W' hC hF => ?_, fun a' W' hC hF => ?_, fun a' W' hC hF => ?_, fun a' W' hC hF => ?_, fun a' W' hC hF => ?_, fun a' W' hC hF => ?_, fun a' W' hC hF => ?_, fun a' W' hC hF => ?_, trivial⟩ ?_
    · exact Tl.st_v 25 _ rfl rfl hC rfl (rn_move rfl ((hF 3 (by decide +kernel)).2 (by decide)))
    · exact Tl.st_v 26 _ rfl rfl hC rfl (rn_add9 rfl rfl ((hF 25 (by decide +kernel)).1 (by decide)) e1 s2)
    · exact Tl.st_v 27 _ rfl rfl hC rfl (rn_move rfl ((hF 4 (by decide +kernel)).2 (by decide)))
    · exact Tl.st_v 28 _ rfl rfl hC rfl (rn_add9 rfl ((hF 26 (by decide +kernel)).1 (by decide)) ((hF 27 (by decide +kernel)).1 (by decide)) e2 s3)
    · exact Tl.st_v 29 _ rfl rfl hC rfl (rn_f28_2 rfl ((hF 1 (by decide +kernel)).2 (by decide)))
    · exact Tl.st_v 30 _ rfl rfl hC rfl (rn_load9 rfl ((hF 29 (by decide +kernel)).1 (by decide)) (frc_cells hC.hs).2.2.2.2)
    · exact Tl.st_v 31 _ rfl rfl hC rfl (rn_len9 rfl ((hF 30 (by decide +kernel)).1 (by decide)) )
    · exact Tl.st_call 32 28 _ rfl (Tl.wanted_none rfl) (rn_call1 rfl rfl ((hF 31 (by decide +kernel)).1 (by decide)) (enter28 _)) ((HD.out W').mono fun e w'' h => ⟨_, h.1, hC.next h.2, h.2, rfl⟩)
    · exact Tl.st_v 33 _ rfl rfl hC rfl (rn_add9 rfl ((hF 28 (by decide +kernel)).1 (by decide)) ((hF 32 (by decide +kernel)).1 (by decide)) e3 s4)
    · exact Tl.st_v 34 _ rfl rfl hC rfl (rn_f28_2 rfl ((hF 1 (by decide +kernel)).2 (by decide)))
    · exact Tl.st_v 35 _ rfl rfl hC rfl (rn_load9 rfl ((hF 34 (by decide +kernel)).1 (by decide)) (frc_cells hC.hs).2.2.2.2)
    · exact Tl.st_v 36 _ rfl rfl hC rfl (rn_add9 rfl ((hF 33 (by decide +kernel)).1 (by decide)) ((hF 35 (by decide +kernel)).1 (by decide)) e4 s5)
    · exact Tl.st_v 5 _ rfl rfl hC rfl (rn_assign rfl ((hF 36 (by decide +kernel)).1 (by decide)))
    · intro v W3 T3 hv
      have v5 : v 5 = .string S4 := hv 5 (by decide)
      clear hv T2 HD s2 s3 s4 s5 HC
      simp only [Tl.fill, v5, List.drop_succ_cons, List.drop_zero, wpList]
      simp only [Act.put, List.setIfInBounds_toArray, List.set_cons_succ, List.set_cons_zero]
      go_wp2_with fail
      refine (HS.out W3 (ht.below' T3.bl)).mono ?_
      rintro e w4 ⟨rfl, b4⟩
      have T4 := T3.next b4
      go_wp2_with fail
      go_ret
      exact ⟨by rw [eY.out]; rfl, T4.bl⟩
end Go.Proofs.YtnepfllbfagfnaaDoor
