/- The document's side. Printed in part by gen_f7.py. -/
import Derived.Test.YtmpgfpmkmgebdaaGreatDoorP3
import Derived.Test.YtmpgfpmkmgebdaaGreatDoorFSMix
import Derived.BigQuiet
namespace Go.Proofs.YtmpgfpmkmgebdaaGreatDoor.F
open Go.RowKit
/-- the memory of the document's functions: the frame -/
structure RtW (c : Array Value) (w W : World) : Prop where
  hs : Has W w.heap.size c 127
  bl : Below w.heap.size w W
theorem RtW.next {c : Array Value} {w W W' : World} (h : RtW c w W) (hb : Below W.heap.size W W') : RtW c w W' :=
  ⟨h.hs.below hb h.hs.lt, belowCall h.bl hb⟩
theorem RtW.drew {c : Array Value} {w W : World} (h : RtW c w W) : RtW c w W.drew := ⟨h.hs.drew, h.bl.drew⟩
theorem RtW.start (c : Array Value) (w : World) : RtW c w (w.alloc (.cells c 127)) := ⟨Has.new _ _ _ _ rfl, (Below.refl _ _).alloc (Nat.le_refl _) _⟩
theorem hidR {p : Prop} (h : p) : Hid p := h
theorem okN_is (n : Int) : okN n = (decide (0 ≤ n) && decide (n < 2147483648)) := by
  unfold okN
  have e : (n ≤ 2147483647) = (n < 2147483648) := by rw [eq_iff_iff]; omega
  simp only [e]
set_option maxRecDepth 20000 in
theorem refMay_any (E G K N : Int) (p : ByteArray) (w : World) :
    Calls Tryz.prog 105 #[.agg (frc E G K N p)] w fun e w' => e = .returned (.bool (okF E G K N)) ∧ Below w.heap.size w w' := by
  have T0 := RtW.start (frc E G K N p) w
  have HF : Hid (okF E G K N = ((decide (0 ≤ E) && decide (E < 2147483648)) && (decide (0 ≤ G) && decide (G < 2147483648)) && okC K N)) := by unfold Hid okF; rw [okN_is, okN_is]
  rw [HF.out]
  unfold frc
  go_enter Tryz.func105, Tryz.ntmps105
  by_cases h1 : 0 ≤ E
  · by_cases h2 : E < 2147483648
    · by_cases h3 : 0 ≤ G
      · by_cases h4 : G < 2147483648
        · go_wp2_with fail
          refine (refCode_any K N _).mono ?_
          rintro e w2 ⟨rfl, b2⟩
          have T2 := T0.next b2
          go_wp2_with fail
          go_ret
          exact ⟨by simp [h1, h2, h3, h4], T2.bl⟩
        · have h4' : 2147483648 ≤ G := by omega
          go_wp2_with fail
          go_ret
          exact ⟨by simp only [decide_eq_false (show ¬ G < 2147483648 by omega), Bool.false_and]; rfl, T0.bl⟩
      · have h3' : G < 0 := by omega
        go_wp2_with fail
        go_ret
        exact ⟨by simp only [decide_eq_false (show ¬ 0 ≤ G by omega), Bool.false_and]; rfl, T0.bl⟩
    · have h2' : 2147483648 ≤ E := by omega
      go_wp2_with fail
      go_ret
      exact ⟨by simp only [decide_eq_false (show ¬ E < 2147483648 by omega), Bool.false_and]; rfl, T0.bl⟩
  · have h1' : E < 0 := by omega
    go_wp2_with fail
    go_ret
    exact ⟨by simp only [decide_eq_false (show ¬ 0 ≤ E by omega), Bool.false_and]; rfl, T0.bl⟩
section
variable {ev : Operand → Value} {o : Oper} {w : World} {x y : Operand}
theorem rn_add3 {u v z : Int} (ho : o.op = .binOp .add 3 x y 3) (hx : ev x = .int .i64 u) (hy : ev y = .int .i64 v) (hz : IntKind.i64.wrap (u + v) = z) : (execOp ev o).run Tryz.prog w = .ok (.value (.int .i64 z)) w := by
  subst hz
  simp [execOp, ho, hx, hy, go_sem]
theorem rn_mul3 {u v z : Int} (ho : o.op = .binOp .mul 3 x y 3) (hx : ev x = .int .i64 u) (hy : ev y = .int .i64 v) (hz : IntKind.i64.wrap (u * v) = z) : (execOp ev o).run Tryz.prog w = .ok (.value (.int .i64 z)) w := by
  subst hz
  simp [execOp, ho, hx, hy, go_sem]
theorem rn_bs32 {K N : Nat} (ho : o.op = .buildSlice 141 2 #[(0, x), (1, y)]) (hx : ev x = .int .u8 (K : Int)) (hy : ev y = .int .u8 (N : Int)) : (execOp ev o).run Tryz.prog w = .ok (.value (.slice (some ⟨w.heap.size, 0, none⟩) 2 2)) (w.alloc (.cells #[.int .u8 (K : Int), .int .u8 (N : Int)] 5)) := by
  simp [execOp, ho, hx, hy, go_sem]
theorem rn_c35 {K : Nat} (ho : o.op = .convert 3 5 x) (hx : ev x = .int .i64 (K : Int)) (h : K < 256) : (execOp ev o).run Tryz.prog w = .ok (.value (.int .u8 (K : Int))) w := by
  have e : IntKind.u8.wrap (K : Int) = (K : Int) := by rw [IntKind.wrap_u8']; omega
  simp [execOp, ho, hx, go_sem, e]
theorem rn_alloc41 (ho : o.op = .alloc 127) : (execOp ev o).run Tryz.prog w = .ok (.value (.pointer (some ⟨w.heap.size, 0, none⟩))) (w.alloc (.cells noF 127)) := by
  simp [execOp, ho, go_sem, noF, frc]
end
def atv (s : ByteArray) (i a b c e : Nat) : Nat → Value
  | 5 => .string s
  | 6 => .int .i64 ((i : Nat) : Int)
  | 7 => .int .u8 ((a : Nat) : Int)
  | 8 => .int .i64 ((a : Nat) : Int)
  | 9 => .int .i64 ((a * 16777216 : Nat) : Int)
  | 10 => .string s
  | 11 => .int .i64 ((i : Nat) : Int)
  | 12 => .int .i64 ((i + 1 : Nat) : Int)
  | 13 => .int .u8 ((b : Nat) : Int)
  | 14 => .int .i64 ((b : Nat) : Int)
  | 15 => .int .i64 ((b * 65536 : Nat) : Int)
  | 16 => .int .i64 ((a * 16777216 + b * 65536 : Nat) : Int)
  | 17 => .string s
  | 18 => .int .i64 ((i : Nat) : Int)
  | 19 => .int .i64 ((i + 2 : Nat) : Int)
  | 20 => .int .u8 ((c : Nat) : Int)
  | 21 => .int .i64 ((c : Nat) : Int)
  | 22 => .int .i64 ((c * 256 : Nat) : Int)
  | 23 => .int .i64 ((a * 16777216 + b * 65536 + c * 256 : Nat) : Int)
  | 24 => .string s
  | 25 => .int .i64 ((i : Nat) : Int)
  | 26 => .int .i64 ((i + 3 : Nat) : Int)
  | 27 => .int .u8 ((e : Nat) : Int)
  | 28 => .int .i64 ((e : Nat) : Int)
  | 29 => .int .i64 ((a * 16777216 + b * 65536 + c * 256 + e : Nat) : Int)
  | 4 => .int .i64 ((a * 16777216 + b * 65536 + c * 256 + e : Nat) : Int)
  | _ => undef
set_option maxRecDepth 20000 in
theorem at_aux (s : ByteArray) (i : Nat) (h : i + 3 < s.size) (hi : i ≤ 1000) (a b c d : Nat) (ha : a < 256) (hb : b < 256) (hc : c < 256) (hd : d < 256) (ea : (bs s).getD i 0 = a) (eb : (bs s).getD (i + 1) 0 = b) (ec : (bs s).getD (i + 2) 0 = c) (ed : (bs s).getD (i + 3) 0 = d) (w : World) :
    Calls Tryz.prog 83 #[.string s, .int .i64 (i : Int)] w fun e w' => e = .returned (.int .i64 ((a * 16777216 + b * 65536 + c * 256 + d : Nat) : Int)) ∧ Below w.heap.size w w' := by
  go_enter Tryz.func83, Tryz.ntmps83
  go_wp2_with fail
  refine Tl.wp_tail_lit (by kernel_rfl) 26 [5, 6, 7, 8, 9, 10, 11, 12, 13, 14, 15, 16, 17, 18, 19, 20, 21, 22, 23, 24, 25, 26, 27, 28, 29, 4] 30 rfl (by kernel_rfl) (fun W => Below w.heap.size w W) (fun dd v _ => v = atv s i a b c d dd) (fun _ _ _ _ h _ => h) (Below.refl _ _).drew
    ⟨fun a' W' hC hF => ?_, fun a' W' hC hF => ?_, fun a' W' hC hF => ?_, fun a' W' hC hF => ?_, fun a' W' hC hF => ?_, fun a' W' hC hF => ?_, fun a' W' hC hF => ?_, fun a' W' hC hF => ?_, fun a' W' hC hF => ?_, fun a' W' hC hF => ?_, fun a' W' hC hF => ?_, fun a' W' hC hF => ?_, fun a' W' hC hF => ?_, fun a' W' hC hF => ?_, fun a' W' hC hF => ?_, fun a' W' hC hF => ?_, fun a' W' hC hF => ?_, fun a' W' hC hF => ?_, fun a' W' hC hF => ?_, fun a' W' hC hF => ?_, fun a' W' hC hF => ?_, fun a' W' hC hF => ?_, fun a' W' hC hF => ?_, fun a' W' hC hF => ?_, fun a' W' hC hF => ?_, fun a' W' hC hF => ?_, trivial⟩ ?_
  · exact Tl.st_v 5 _ rfl rfl hC rfl (rn_move rfl ((hF 0 (by decide +kernel)).2 (by decide)))
  · exact Tl.st_v 6 _ rfl rfl hC rfl (rn_move rfl ((hF 1 (by decide +kernel)).2 (by decide)))
  · exact Tl.st_v 7 _ rfl rfl hC rfl (rn_index9 rfl ((hF 5 (by decide +kernel)).1 (by decide)) ((hF 6 (by decide +kernel)).1 (by decide)) (by omega) ea)
  · exact Tl.st_v 8 _ rfl rfl hC rfl (rn_c53 rfl ((hF 7 (by decide +kernel)).1 (by decide)) (by omega) (by omega))
  · exact Tl.st_v 9 _ rfl rfl hC rfl (rn_mul3 rfl ((hF 8 (by decide +kernel)).1 (by decide)) rfl (by rw [wrap_i64_of (by omega) (by omega)]; omega))
  · exact Tl.st_v 10 _ rfl rfl hC rfl (rn_move rfl ((hF 0 (by decide +kernel)).2 (by decide)))
  · exact Tl.st_v 11 _ rfl rfl hC rfl (rn_move rfl ((hF 1 (by decide +kernel)).2 (by decide)))
  · exact Tl.st_v 12 _ rfl rfl hC rfl (rn_add3 rfl ((hF 11 (by decide +kernel)).1 (by decide)) rfl (by rw [wrap_i64_of (by omega) (by omega)]; omega))
  · exact Tl.st_v 13 _ rfl rfl hC rfl (rn_index9 rfl ((hF 10 (by decide +kernel)).1 (by decide)) ((hF 12 (by decide +kernel)).1 (by decide)) (by omega) eb)
  · exact Tl.st_v 14 _ rfl rfl hC rfl (rn_c53 rfl ((hF 13 (by decide +kernel)).1 (by decide)) (by omega) (by omega))
  · exact Tl.st_v 15 _ rfl rfl hC rfl (rn_mul3 rfl ((hF 14 (by decide +kernel)).1 (by decide)) rfl (by rw [wrap_i64_of (by omega) (by omega)]; omega))
  · exact Tl.st_v 16 _ rfl rfl hC rfl (rn_add3 rfl ((hF 9 (by decide +kernel)).1 (by decide)) ((hF 15 (by decide +kernel)).1 (by decide)) (by rw [wrap_i64_of (by omega) (by omega)]; omega))
  · exact Tl.st_v 17 _ rfl rfl hC rfl (rn_move rfl ((hF 0 (by decide +kernel)).2 (by decide)))
  · exact Tl.st_v 18 _ rfl rfl hC rfl (rn_move rfl ((hF 1 (by decide +kernel)).2 (by decide)))
  · exact Tl.st_v 19 _ rfl rfl hC rfl (rn_add3 rfl ((hF 18 (by decide +kernel)).1 (by decide)) rfl (by rw [wrap_i64_of (by omega) (by omega)]; omega))
  · exact Tl.st_v 20 _ rfl rfl hC rfl (rn_index9 rfl ((hF 17 (by decide +kernel)).1 (by decide)) ((hF 19 (by decide +kernel)).1 (by decide)) (by omega) ec)
  · exact Tl.st_v 21 _ rfl rfl hC rfl (rn_c53 rfl ((hF 20 (by decide +kernel)).1 (by decide)) (by omega) (by omega))
  · exact Tl.st_v 22 _ rfl rfl hC rfl (rn_mul3 rfl ((hF 21 (by decide +kernel)).1 (by decide)) rfl (by rw [wrap_i64_of (by omega) (by omega)]; omega))
  · exact Tl.st_v 23 _ rfl rfl hC rfl (rn_add3 rfl ((hF 16 (by decide +kernel)).1 (by decide)) ((hF 22 (by decide +kernel)).1 (by decide)) (by rw [wrap_i64_of (by omega) (by omega)]; omega))
  · exact Tl.st_v 24 _ rfl rfl hC rfl (rn_move rfl ((hF 0 (by decide +kernel)).2 (by decide)))
  · exact Tl.st_v 25 _ rfl rfl hC rfl (rn_move rfl ((hF 1 (by decide +kernel)).2 (by decide)))
  · exact Tl.st_v 26 _ rfl rfl hC rfl (rn_add3 rfl ((hF 25 (by decide +kernel)).1 (by decide)) rfl (by rw [wrap_i64_of (by omega) (by omega)]; omega))
  · exact Tl.st_v 27 _ rfl rfl hC rfl (rn_index9 rfl ((hF 24 (by decide +kernel)).1 (by decide)) ((hF 26 (by decide +kernel)).1 (by decide)) (by omega) ed)
  · exact Tl.st_v 28 _ rfl rfl hC rfl (rn_c53 rfl ((hF 27 (by decide +kernel)).1 (by decide)) (by omega) (by omega))
  · exact Tl.st_v 29 _ rfl rfl hC rfl (rn_add3 rfl ((hF 23 (by decide +kernel)).1 (by decide)) ((hF 28 (by decide +kernel)).1 (by decide)) (by rw [wrap_i64_of (by omega) (by omega)]; omega))
  · exact Tl.st_v 4 _ rfl rfl hC rfl (rn_assign rfl ((hF 29 (by decide +kernel)).1 (by decide)))
  · intro v W1 T1 hv
    have v4 : v 4 = .int .i64 ((a * 16777216 + b * 65536 + c * 256 + d : Nat) : Int) := hv 4 (by decide)
    simp only [Tl.fill, v4, List.drop_succ_cons, List.drop_zero, wpList]
    simp only [Act.put, List.setIfInBounds_toArray, List.set_cons_succ, List.set_cons_zero]
    go_wp2_with fail
    go_ret
    exact ⟨rfl, T1⟩
theorem at_any (s : ByteArray) (i : Nat) (h : i + 3 < s.size) (hi : i ≤ 1000) (w : World) :
    Calls Tryz.prog 83 #[.string s, .int .i64 (i : Int)] w fun e w' => e = .returned (.int .i64 (fN s i)) ∧ Below w.heap.size w w' :=
  at_aux s i h hi _ _ _ _ (getD_lt _ 256 (by decide) (bs_lt s) _) (getD_lt _ 256 (by decide) (bs_lt s) _) (getD_lt _ 256 (by decide) (bs_lt s) _) (getD_lt _ 256 (by decide) (bs_lt s) _) rfl rfl rfl rfl w
def kv (n E G K N : Nat) (A B C D p S0 S1 S2 S3 S4 : ByteArray) : Nat → Value
  | 12 => .pointer (some ⟨n, 0, none⟩)
  | 13 => .pointer (some ⟨n, 0, none⟩)
  | 14 => .int .i64 ((E : Nat) : Int)
  | 15 => .string A
  | 16 => .string S0
  | 17 => .pointer (some ⟨n, 0, none⟩)
  | 18 => .pointer (some ⟨n, 1, none⟩)
  | 19 => .int .i64 ((G : Nat) : Int)
  | 20 => .string B
  | 21 => .string S1
  | 22 => .pointer (some ⟨n, 2, none⟩)
  | 23 => .pointer (some ⟨n, 2, none⟩)
  | 24 => .int .i64 ((K : Nat) : Int)
  | 25 => .int .u8 ((K : Nat) : Int)
  | 26 => .pointer (some ⟨n, 2, none⟩)
  | 27 => .pointer (some ⟨n, 3, none⟩)
  | 28 => .int .i64 ((N : Nat) : Int)
  | 29 => .int .u8 ((N : Nat) : Int)
  | 31 => .string C
  | 32 => .string S2
  | 33 => .pointer (some ⟨n, 4, none⟩)
  | 34 => .string p
  | 35 => .int .i64 (p.size : Int)
  | 36 => .string D
  | 37 => .string S3
  | 38 => .pointer (some ⟨n, 4, none⟩)
  | 39 => .string p
  | 40 => .string S4
  | 4 => .string S4
  | _ => undef
def kF (n E G K N : Nat) (A B C D p S0 S1 S2 S3 S4 : ByteArray) (d : Nat) (v : Value) (W : World) : Prop :=
  match d with
  | 30 => ∃ b, v = .slice (some ⟨b, 0, none⟩) 2 2 ∧ Has W b #[.int .u8 (K : Int), .int .u8 (N : Int)] 5
  | _ => v = kv n E G K N A B C D p S0 S1 S2 S3 S4 d
theorem kF_mono (n E G K N : Nat) (A B C D p S0 S1 S2 S3 S4 : ByteArray) (d : Nat) (v : Value) (w w' : World) (h : kF n E G K N A B C D p S0 S1 S2 S3 S4 d v w) (hb : Below w.heap.size w w') : kF n E G K N A B C D p S0 S1 S2 S3 S4 d v w' := by
  unfold kF at h ⊢
  split
  · obtain ⟨b, h1, h2⟩ := h
    exact ⟨b, h1, h2.below hb h2.lt⟩
  · rename_i hne
    split at h
    · exact absurd rfl (hne)
    · exact h
set_option maxRecDepth 20000 in
theorem refMake_arg (E G K N : Int) (p : ByteArray) (h : okF E G K N = false) (w : World) :
    Calls Tryz.prog 84 #[.agg (frc E G K N p)] w fun e w' => e = .returned (.tuple #[.string ⟨#[]⟩, .int .i64 1]) ∧ Below w.heap.size w w' := by
  have T0 := RtW.start (frc E G K N p) w
  have HY := hidR (refMay_any E G K N p)
  rw [h] at HY
  unfold frc at *
  go_enter Tryz.func84, Tryz.ntmps84
  go_wp2_with fail
  refine (HY.out _).mono ?_
  rintro e w1 ⟨rfl, b1⟩
  have T1 := T0.next b1
  go_wp2_with fail
  go_ret2
  exact ⟨rfl, T1.bl⟩
set_option maxRecDepth 20000 in
theorem refMake_big (E G K N : Int) (p : ByteArray) (h : okF E G K N = true) (hp : 65486 < p.size) (w : World) :
    Calls Tryz.prog 84 #[.agg (frc E G K N p)] w fun e w' => e = .returned (.tuple #[.string ⟨#[]⟩, .int .i64 40]) ∧ Below w.heap.size w w' := by
  have T0 := RtW.start (frc E G K N p) w
  have q0 : (65486 : Int) < (p.size : Int) := by omega
  have HY := hidR (refMay_any E G K N p)
  rw [h] at HY
  unfold frc at *
  go_enter Tryz.func84, Tryz.ntmps84
  go_wp2_with fail
  refine (HY.out _).mono ?_
  rintro e w1 ⟨rfl, b1⟩
  have T1 := T0.next b1
  obtain ⟨c0, c1, c2, c3, c4⟩ := frc_cells T1.hs
  go_wp2_with fail
  go_ret2
  exact ⟨rfl, T1.bl⟩
set_option maxRecDepth 20000 in
theorem refMake_aux (E G K N : Nat) (p : ByteArray) (hok : okF E G K N = true) (hE : E < 2147483648) (hG : G < 2147483648) (hK : K < 256) (hN : N < 256) (hp : p.size ≤ 65486) (w : World)
    (A B C D S0 S1 S2 S3 S4 X Y : ByteArray) (eA : Hid (ofBs (be4 E) = A)) (eB : Hid (ofBs (be4 G) = B)) (eC : Hid (ofBs [K, N] = C)) (eD : Hid (ofBs (be4 p.size) = D))
    (e0 : ⟨#[109, 97, 110, 49]⟩ ++ A = S0) (e1 : S0 ++ B = S1) (e2 : S1 ++ C = S2) (e3 : S2 ++ D = S3) (e4 : S3 ++ p = S4) (eX : Hid (ofBs (Sha.digest (bs S4)) = X)) (eY : Hid (S4 ++ X = Y)) :
    Calls Tryz.prog 84 #[.agg (frc E G K N p)] w fun e w' => e = .returned (.tuple #[.string Y, .int .i64 0]) ∧ Below w.heap.size w w' := by
  have T0 := RtW.start (frc E G K N p) w
  have q0 : ¬ (65486 : Int) < (p.size : Int) := by omega
  have HY := hidR (refMay_any E G K N p)
  rw [hok] at HY
  have HA : Hid (∀ W, Calls Tryz.prog 106 #[.int .i64 (E : Int)] W fun e w' => e = .returned (.string A) ∧ Below W.heap.size W w') := fun W => by have := refFour_any E hE W; rw [eA.out] at this; exact this
  have HB : Hid (∀ W, Calls Tryz.prog 106 #[.int .i64 (G : Int)] W fun e w' => e = .returned (.string B) ∧ Below W.heap.size W w') := fun W => by have := refFour_any G hG W; rw [eB.out] at this; exact this
  have HD : Hid (∀ W, Calls Tryz.prog 106 #[.int .i64 (p.size : Int)] W fun e w' => e = .returned (.string D) ∧ Below W.heap.size W w') := fun W => by have := refFour_any p.size (by omega) W; rw [eD.out] at this; exact this
  have HC : ∀ (W : World) (b : Nat), Has W b #[.int .u8 (K : Int), .int .u8 (N : Int)] 5 → (convert 141 9 (.slice (some ⟨b, 0, none⟩) 2 2)).run Tryz.prog W = .ok (.string C) W := fun W b hb => by have := conv_str W b [K, N] 5 2 hb; rw [eC.out] at this; exact this
  have zA : A.size = 4 := by rw [← eA.out, ofBs_size]; rfl
  have zB : B.size = 4 := by rw [← eB.out, ofBs_size]; rfl
  have zD : D.size = 4 := by rw [← eD.out, ofBs_size]; rfl
  have zC : C.size = 2 := by rw [← eC.out, ofBs_size]; rfl
  have zX : X.size = 32 := by rw [← eX.out, ofBs_size, digest_length]
  have z0 : S0.size = 8 := by rw [← e0, ByteArray.size_append, zA]; rfl
  have z1 : S1.size = 12 := by rw [← e1, ByteArray.size_append]; omega
  have z2 : S2.size = 14 := by rw [← e2, ByteArray.size_append]; omega
  have z3 : S3.size = 18 := by rw [← e3, ByteArray.size_append]; omega
  have z4 : S4.size = 18 + p.size := by rw [← e4, ByteArray.size_append]; omega
  have HS : Hid (∀ W, Calls Tryz.prog 107 #[.string S4] W fun e w' => e = .returned (.string X) ∧ Below W.heap.size W w') := fun W => by
    have := refSum_any S4 (by omega) W; rw [eX.out] at this; exact this
  have m0 : (⟨#[109, 97, 110, 49]⟩ : ByteArray).size = 4 := rfl
  have s1 : ¬ 9223372036854775807 < (⟨#[109, 97, 110, 49]⟩ : ByteArray).size + A.size := by omega
  have s2 : ¬ 9223372036854775807 < S0.size + B.size := by omega
  have s3 : ¬ 9223372036854775807 < S1.size + C.size := by omega
  have s4 : ¬ 9223372036854775807 < S2.size + D.size := by omega
  have s5 : ¬ 9223372036854775807 < S3.size + p.size := by omega
  have s6 : ¬ 9223372036854775807 < S4.size + X.size := by omega
  clear zA zB zC zD zX z0 z1 z2 z3 z4 m0 eA eB eC eD eX hok
  unfold frc at HY ⊢
  go_enter Tryz.func84, Tryz.ntmps84
  go_wp2_with fail
  refine (HY.out _).mono ?_
  rintro e w1 ⟨rfl, b1⟩
  have T1 := T0.next b1
  obtain ⟨c0, c1, c2, c3, c4⟩ := frc_cells T1.hs
  clear T0 b1 HY
  go_wp2_with fail
  refine Tl.wp_tail_lit (by kernel_rfl) 30 [12, 13, 14, 15, 16, 17, 18, 19, 20, 21, 22, 23, 24, 25, 26, 27, 28, 29, 30, 31, 32, 33, 34, 35, 36, 37, 38, 39, 40, 4] 45 rfl (by kernel_rfl) (RtW (frc E G K N p) w) (kF w.heap.size E G K N A B C D p S0 S1 S2 S3 S4) (kF_mono _ _ _ _ _ _ _ _ _ _ _ _ _ _ _) T1.drew
    ⟨fun a' W' hC hF => ?_, fun a' W' hC hF => ?_, fun a' W' hC hF => ?_, fun a' W' hC hF => ?_, fun a' W' hC hF => ?_, fun a' W' hC hF => ?_, fun a' W' hC hF => ?_, fun a' W' hC hF => ?_, fun a' W' hC hF => ?_, fun a' W' hC hF => ?_, fun a' W' hC hF => ?_, fun a' W' hC hF => ?_, fun a' W' hC hF => ?_, fun a' W' hC hF => ?_, fun a' W' hC hF => ?_, fun a' W' hC hF => ?_, fun a' W' hC hF => ?_, fun a' W' hC hF => ?_, fun a' W' hC hF => ?_, fun a' W' hC hF => ?_, fun a' W' hC hF => ?_, fun a' W' hC hF => ?_, fun a' W' hC hF => ?_, fun a' W' hC hF => ?_, fun a' W' hC hF => ?_, fun a' W' hC hF => ?_, fun a' W' hC hF => ?_, fun a' W' hC hF => ?_, fun a' W' hC hF => ?_, fun a' W' hC hF => ?_, trivial⟩ ?_
  · exact Tl.st_v 12 _ rfl rfl hC rfl (rn_f41_0 rfl ((hF 1 (by decide +kernel)).2 (by decide)))
  · exact Tl.st_v 13 _ rfl rfl hC rfl (rn_f24_0 rfl ((hF 12 (by decide +kernel)).1 (by decide)))
  · exact Tl.st_v 14 _ rfl rfl hC rfl (rn_load3 rfl ((hF 13 (by decide +kernel)).1 (by decide)) (frc_cells hC.hs).1)
  · exact Tl.st_call 15 106 _ rfl (Tl.wanted_none rfl) (rn_call1 rfl rfl ((hF 14 (by decide +kernel)).1 (by decide)) (enter25 _)) ((HA.out W').mono fun e w'' h => ⟨_, h.1, hC.next h.2, h.2, rfl⟩)
  · exact Tl.st_v 16 _ rfl rfl hC rfl (rn_add9 rfl rfl ((hF 15 (by decide +kernel)).1 (by decide)) e0 s1)
  · exact Tl.st_v 17 _ rfl rfl hC rfl (rn_f41_0 rfl ((hF 1 (by decide +kernel)).2 (by decide)))
  · exact Tl.st_v 18 _ rfl rfl hC rfl (rn_f24_1 rfl ((hF 17 (by decide +kernel)).1 (by decide)))
  · exact Tl.st_v 19 _ rfl rfl hC rfl (rn_load3 rfl ((hF 18 (by decide +kernel)).1 (by decide)) (frc_cells hC.hs).2.1)
  · exact Tl.st_call 20 106 _ rfl (Tl.wanted_none rfl) (rn_call1 rfl rfl ((hF 19 (by decide +kernel)).1 (by decide)) (enter25 _)) ((HB.out W').mono fun e w'' h => ⟨_, h.1, hC.next h.2, h.2, rfl⟩)
  · exact Tl.st_v 21 _ rfl rfl hC rfl (rn_add9 rfl ((hF 16 (by decide +kernel)).1 (by decide)) ((hF 20 (by decide +kernel)).1 (by decide)) e1 s2)
  · exact Tl.st_v 22 _ rfl rfl hC rfl (rn_f41_1 rfl ((hF 1 (by decide +kernel)).2 (by decide)))
  · exact Tl.st_v 23 _ rfl rfl hC rfl (rn_f26_0 rfl ((hF 22 (by decide +kernel)).1 (by decide)))
  · exact Tl.st_v 24 _ rfl rfl hC rfl (rn_load3 rfl ((hF 23 (by decide +kernel)).1 (by decide)) (frc_cells hC.hs).2.2.1)
  · exact Tl.st_v 25 _ rfl rfl hC rfl (rn_c35 rfl ((hF 24 (by decide +kernel)).1 (by decide)) hK)
  · exact Tl.st_v 26 _ rfl rfl hC rfl (rn_f41_1 rfl ((hF 1 (by decide +kernel)).2 (by decide)))
  · exact Tl.st_v 27 _ rfl rfl hC rfl (rn_f26_1 rfl ((hF 26 (by decide +kernel)).1 (by decide)))
  · exact Tl.st_v 28 _ rfl rfl hC rfl (rn_load3 rfl ((hF 27 (by decide +kernel)).1 (by decide)) (frc_cells hC.hs).2.2.2.1)
  · exact Tl.st_v 29 _ rfl rfl hC rfl (rn_c35 rfl ((hF 28 (by decide +kernel)).1 (by decide)) hN)
  · refine Tl.st_val 30 (.slice (some ⟨W'.heap.size, 0, none⟩) 2 2) rfl (Tl.wanted_none rfl) (rn_bs32 rfl ((hF 25 (by decide +kernel)).1 (by decide)) ((hF 29 (by decide +kernel)).1 (by decide))) (hC.next ((Below.refl _ _).alloc (Nat.le_refl _) _)) ((Below.refl _ _).alloc (Nat.le_refl _) _) ?_
    exact ⟨W'.heap.size, rfl, Has.new _ _ _ _ rfl⟩
  · obtain ⟨b, hb1, hb2⟩ : ∃ b, a'.tmps.getD 30 undef = .slice (some ⟨b, 0, none⟩) 2 2 ∧ Has W' b #[.int .u8 (K : Int), .int .u8 (N : Int)] 5 := (hF 30 (by decide +kernel)).1 (by decide)
    exact Tl.st_v 31 _ rfl rfl hC rfl (rn_c329 rfl hb1 (HC _ _ hb2))
  · exact Tl.st_v 32 _ rfl rfl hC rfl (rn_add9 rfl ((hF 21 (by decide +kernel)).1 (by decide)) ((hF 31 (by decide +kernel)).1 (by decide)) e2 s3)
  · exact Tl.st_v 33 _ rfl rfl hC rfl (rn_f41_2 rfl ((hF 1 (by decide +kernel)).2 (by decide)))
  · exact Tl.st_v 34 _ rfl rfl hC rfl (rn_load9 rfl ((hF 33 (by decide +kernel)).1 (by decide)) (frc_cells hC.hs).2.2.2.2)
  · exact Tl.st_v 35 _ rfl rfl hC rfl (rn_len9 rfl ((hF 34 (by decide +kernel)).1 (by decide)) )
  · exact Tl.st_call 36 106 _ rfl (Tl.wanted_none rfl) (rn_call1 rfl rfl ((hF 35 (by decide +kernel)).1 (by decide)) (enter25 _)) ((HD.out W').mono fun e w'' h => ⟨_, h.1, hC.next h.2, h.2, rfl⟩)
  · exact Tl.st_v 37 _ rfl rfl hC rfl (rn_add9 rfl ((hF 32 (by decide +kernel)).1 (by decide)) ((hF 36 (by decide +kernel)).1 (by decide)) e3 s4)
  · exact Tl.st_v 38 _ rfl rfl hC rfl (rn_f41_2 rfl ((hF 1 (by decide +kernel)).2 (by decide)))
  · exact Tl.st_v 39 _ rfl rfl hC rfl (rn_load9 rfl ((hF 38 (by decide +kernel)).1 (by decide)) (frc_cells hC.hs).2.2.2.2)
  · exact Tl.st_v 40 _ rfl rfl hC rfl (rn_add9 rfl ((hF 37 (by decide +kernel)).1 (by decide)) ((hF 39 (by decide +kernel)).1 (by decide)) e4 s5)
  · exact Tl.st_v 4 _ rfl rfl hC rfl (rn_assign rfl ((hF 40 (by decide +kernel)).1 (by decide)))
  · intro v W3 T3 hv
    have v4 : v 4 = .string S4 := hv 4 (by decide)
    clear hv T1 HA HB HD s1 s2 s3 s4 s5 HC
    simp only [Tl.fill, v4, List.drop_succ_cons, List.drop_zero, wpList]
    simp only [Act.put, List.setIfInBounds_toArray, List.set_cons_succ, List.set_cons_zero]
    go_wp2_with fail
    refine (HS.out W3).mono ?_
    rintro e w4 ⟨rfl, b4⟩
    have T4 := T3.next b4
    go_wp2_with fail
    go_ret2
    exact ⟨by rw [eY.out]; rfl, T4.bl⟩
theorem refMake_ok (E G K N : Int) (p : ByteArray) (h : okF E G K N = true) (hp : p.size ≤ 65486) (w : World) :
    Calls Tryz.prog 84 #[.agg (frc E G K N p)] w fun e w' => e = .returned (.tuple #[.string (ofBs (dat E.toNat G.toNat K.toNat N.toNat (bs p))), .int .i64 0]) ∧ Below w.heap.size w w' := by
  obtain ⟨e, g, k, n, rfl, rfl, rfl, rfl, p1, p2, p3, p4, p5⟩ := okF_is h
  simp only [Int.toNat_natCast]
  obtain ⟨h1, h2⟩ := dat_is e g k n p (by omega) (by omega)
  refine refMake_aux e g k n p h p1 p2 (by omega) (by omega) hp w _ _ _ _ _ _ _ _ _ _ _ rfl rfl rfl rfl rfl rfl rfl rfl rfl rfl ?_
  unfold Hid
  rw [ByteArray.append_assoc (a := ⟨#[109, 97, 110, 49]⟩), h1, h2, ← ofBs_append]
  rfl
/-- THE DOCUMENT's MAKE. -/
theorem refMake_any (E G K N : Int) (p : ByteArray) (w : World) :
    Calls Tryz.prog 84 #[.agg (frc E G K N p)] w fun e w' => e = .returned (.tuple #[.string (mkD E G K N p), .int .i64 (mkE E G K N p)]) ∧ Below w.heap.size w w' := by
  unfold mkD mkE
  by_cases h : okF E G K N = true
  · by_cases hp : p.size ≤ 65486
    · simp only [h, hp, if_true]
      exact refMake_ok E G K N p h hp w
    · simp only [h, hp, if_true, if_false]
      exact refMake_big E G K N p h (by omega) w
  · have h' : okF E G K N = false := by simpa using h
    simp only [h', Bool.false_eq_true, if_false]
    exact refMake_arg E G K N p h' w
end Go.Proofs.YtmpgfpmkmgebdaaGreatDoor.F
