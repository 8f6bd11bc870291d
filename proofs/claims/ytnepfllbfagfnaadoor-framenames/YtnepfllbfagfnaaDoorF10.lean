/- works: the examples. Printed in part by gen_f10.py. -/
import Derived.Test.YtnepfllbfagfnaaDoorF9
namespace Go.Proofs.YtnepfllbfagfnaaDoor
open Go.RowKit
section
variable {ev : Operand → Value} {o : Oper} {w : World} {x y : Operand}
theorem rn_slTx {A p : ByteArray} {hi : Nat} (ho : o.op = .slice 9 x none (some y) none) (hx : ev x = .string A) (hy : ev y = .int .i64 (hi : Int)) (h2 : hi ≤ A.size) (hp : Hid (A.extract 0 hi = p)) : (execOp ev o).run Tryd.prog w = .ok (.value (.string p)) w := by
  have := rn_slT (w := w) ho hx hy h2
  rw [hp.out] at this
  exact this
theorem rn_slFx {A p : ByteArray} {lo : Nat} (ho : o.op = .slice 9 x (some y) none none) (hx : ev x = .string A) (hy : ev y = .int .i64 (lo : Int)) (h2 : lo ≤ A.size) (hp : Hid (A.extract lo A.size = p)) : (execOp ev o).run Tryd.prog w = .ok (.value (.string p)) w := by
  have := rn_slF (w := w) ho hx hy h2
  rw [hp.out] at this
  exact this
theorem rn_len9x {A : ByteArray} {n : Nat} (ho : o.op = .call { callee := .builtin .len, args := #[x], argTypes := #[9] }) (hx : ev x = .string A) (hn : Hid (A.size = n)) : (execOp ev o).run Tryd.prog w = .ok (.value (.int .i64 (n : Int))) w := by
  have := rn_len9 (w := w) ho hx
  rw [hn.out] at this
  exact this
theorem rn_b24a (ho : o.op = .build 24 #[(0, .const (.int .i64 1)), (1, .const (.int .i64 9))]) (h1 : ev (.const (.int .i64 1)) = .int .i64 1) (h2 : ev (.const (.int .i64 9)) = .int .i64 9) : (execOp ev o).run Tryd.prog w = .ok (.value (.agg #[.int .i64 1, .int .i64 9])) w := by
  simp [execOp, ho, h1, h2, go_sem]
theorem rn_b24b (ho : o.op = .build 24 #[(0, .const (.int .i64 2))]) (h1 : ev (.const (.int .i64 2)) = .int .i64 2) : (execOp ev o).run Tryd.prog w = .ok (.value (.agg #[.int .i64 2, .int .i64 0])) w := by
  simp [execOp, ho, h1, go_sem]
end
/-- the example's bytes but for the digest -/
def gd : ByteArray := ⟨#[109, 97, 110, 49, 0, 0, 0, 1, 0, 0, 0, 2, 2, 3, 0, 0, 0, 1, 120]⟩
theorem gd_bs : bs gd = pre 1 2 2 3 (bs ⟨#[120]⟩) := by decide +kernel
theorem gd_lt : ∀ x ∈ bs gd, x < 256 := bs_lt gd
/-- the example -/
structure Ex (X D : ByteArray) : Prop where
  is : IsD 1 2 2 3 ⟨#[120]⟩ X
  sz : X.size = 51
  hd : X.extract 0 19 = gd
  tl : X.extract 19 X.size = D
  sum : ofBs (Sha.digest (bs gd)) = D
  all : gd ++ D = X
theorem ex_is : ∃ X D, Ex X D := by
  have h0 : mkE 1 2 2 3 ⟨#[120]⟩ = 0 := by decide +kernel
  have hI : IsD 1 2 2 3 ⟨#[120]⟩ (ofBs (dat 1 2 2 3 (bs ⟨#[120]⟩))) := ⟨by omega, by omega, by omega, by omega, by omega, by decide, rfl⟩
  refine ⟨ofBs (dat 1 2 2 3 (bs ⟨#[120]⟩)), ofBs (Sha.digest (bs gd)), hI, hI.size, ?_, ?_, rfl, ?_⟩
  · apply bs_inj
    rw [bs_extract, List.drop_zero]
    have := hI.head.1
    rw [hI.size] at this
    exact this.trans gd_bs.symm
  · apply bs_inj
    rw [bs_drop, bs_ofBs _ (digest_lt _), gd_bs]
    have := hI.head.2
    rw [hI.size] at this
    exact this
  · apply bs_inj
    rw [bs_append, bs_ofBs _ (digest_lt _), gd_bs, hI.bytes]
    rfl
theorem rdV_no {s : ByteArray} (h : rdOk s = false) : rdV s = .tuple #[.agg noF, .int .i64 4] := by
  unfold rdV; rw [h]; rfl
theorem rdV_yes {e g k n : Nat} {p s : ByteArray} (h : IsD e g k n p s) : rdV s = .tuple #[.agg (frc e g k n p), .int .i64 0] := by
  obtain ⟨t1, t2, t3, t4, _⟩ := h.tells
  unfold rdV
  rw [h.read, if_pos rfl, t1, t2, t3, t4, h.body]
theorem rd_few {s : ByteArray} (h : s.size < 50) : rdOk s = false := by
  cases hr : rdOk s with
  | false => rfl
  | true => have := (rd_size hr).1; omega
def xv (X D : ByteArray) : Nat → Value
  | 26 => .int .i64 0
  | 27 => .bool true
  | 28 => .bool true
  | 29 => .string X
  | 30 => .int .i64 51
  | 31 => .bool true
  | 32 => .bool true
  | 33 => .bool true
  | 34 => .string X
  | 35 => .string gd
  | 36 => .bool true
  | 37 => .bool true
  | 38 => .bool true
  | 39 => .string X
  | 40 => .string D
  | 41 => .string X
  | 42 => .string gd
  | 43 => .string D
  | 44 => .bool true
  | 45 => .bool true
  | 46 => .bool true
  | 47 => .int .i64 1
  | 48 => .bool true
  | 49 => .bool true
  | 50 => .bool true
  | 51 => .int .i64 4
  | 52 => .bool true
  | 53 => .bool true
  | 54 => .bool true
  | 55 => .agg #[.int .i64 1, .int .i64 9]
  | 56 => .agg #[.int .i64 2, .int .i64 0]
  | 57 => .bool true
  | 58 => .bool true
  | 0 => .bool true
  | _ => undef
set_option maxRecDepth 20000 in
set_option maxHeartbeats 1000000 in
theorem works_any (w : World) (ht : Tabs w) : Calls Tryd.prog 7 #[] w fun e w' => e = .returned (.bool true) ∧ Below w.heap.size w w' := by
  obtain ⟨X, D, hx⟩ := ex_is
  have HM : Hid (∀ W, Tabs W → Calls Tryd.prog 9 #[.agg (frc 1 2 2 3 ⟨#[120]⟩)] W fun e w' => e = .returned (.tuple #[.string X, .int .i64 0]) ∧ Below W.heap.size W w') := fun W hW => by
    have := make_any 1 2 2 3 ⟨#[120]⟩ W hW
    have e := hx.is.ok
    simp only [Int.cast_ofNat_Int] at e
    have e1 : mkE 1 2 2 3 ⟨#[120]⟩ = 0 := e.1
    have e2 : mkD 1 2 2 3 ⟨#[120]⟩ = X := e.2
    rw [e1, e2] at this
    exact this
  have HN : Hid (∀ W, Tabs W → Calls Tryd.prog 9 #[.agg (frc 1 2 3 2 ⟨#[120]⟩)] W fun e w' => e = .returned (.tuple #[.string ⟨#[]⟩, .int .i64 1]) ∧ Below W.heap.size W w') := fun W hW => make_arg 1 2 3 2 ⟨#[120]⟩ (by decide +kernel) W
  have HO := hidR (of_any 1 2 2 3 ⟨#[120]⟩)
  have HP := hidR (of_any 1 2 3 2 ⟨#[120]⟩)
  have HR : Hid (∀ W, Tabs W → Calls Tryd.prog 10 #[.string (X.extract 0 17)] W fun e w' => e = .returned (.tuple #[.agg #[.int .i64 0, .int .i64 0, .int .i64 0, .int .i64 0, .string ⟨#[]⟩], .int .i64 4]) ∧ Below W.heap.size W w') := fun W hW => by
    have := read_any (X.extract 0 17) W hW
    rw [rdV_no (rd_few (by rw [ByteArray.size_extract]; omega))] at this
    exact this
  have HS : Hid (∀ W, Tabs W → Calls Tryd.prog 11 #[.string gd] W fun e w' => e = .returned (.string D) ∧ Below W.heap.size W w') := fun W hW => by
    have := sum_any W hW gd (by decide)
    rw [hx.sum] at this
    exact this
  have HL : Hid (∀ W, Calls Tryd.prog 13 #[.agg #[.int .i64 1, .int .i64 9], .agg #[.int .i64 2, .int .i64 0]] W fun e w' => e = .returned (.bool true) ∧ Below W.heap.size W w') := fun W => less_any 1 9 2 0 W
  have sz := hx.sz
  have h19 : Hid (X.extract 0 19 = gd) := hx.hd
  have h51 : Hid (X.extract 19 X.size = D) := hx.tl
  clear hx
  have HX : Hid (X.size = 51) := sz
  have sz1 : (X.size : Int) = 51 := by omega
  have sz2 : (17 : Int) ≤ (X.size : Int) := by omega
  unfold frc at *
  go_enter Tryd.func7, Tryd.ntmps7
  go_wp2_with fail
  refine (HO.out _).mono ?_
  rintro e w1 ⟨rfl, b1⟩
  go_wp2_with fail
  refine (HM.out _ (ht.below' b1)).mono ?_
  rintro e w2 ⟨rfl, b2⟩
  have k2 := belowCall b1 b2
  clear b1 b2
  go_wp2_with fail
  refine (HP.out _).mono ?_
  rintro e w3 ⟨rfl, b3⟩
  have k3 := belowCall k2 b3
  clear k2 b3
  go_wp2_with fail
  refine (HN.out _ (ht.below' k3)).mono ?_
  rintro e w4 ⟨rfl, b4⟩
  have k4 := belowCall k3 b4
  clear k3 b4 HM HN HO HP
  go_wp2_with fail
  refine (HR.out _ (ht.below' k4)).mono ?_
  rintro e w5 ⟨rfl, b5⟩
  have k5 := belowCall k4 b5
  clear k4 b5 HR
  go_wp2_with fail
  have k6 := belowAlloc k5 (.cells #[.int .i64 0, .int .i64 0, .int .i64 0, .int .i64 0, .string ⟨#[]⟩] 28)
  clear k5
  refine Tl.wp_tail_lit (by kernel_rfl) 34 [26, 27, 28, 29, 30, 31, 32, 33, 34, 35, 36, 37, 38, 39, 40, 41, 42, 43, 44, 45, 46, 47, 48, 49, 50, 51, 52, 53, 54, 55, 56, 57, 58, 0] 59 rfl (by kernel_rfl) (fun W => Below w.heap.size w W) (fun dd v _ => v = xv X D dd) (fun _ _ _ _ h _ => h) k6.drew
    ⟨fun a' W' hC hF => ?_, fun a' W' hC hF => ?_, fun a' W' hC hF => ?_, fun a' W' hC hF => ?_, fun a' W' hC hF => ?_, fun a' W' hC hF => ?_, fun a' W' hC hF => ?_, fun a' W' hC hF => ?_, fun a' W' hC hF => ?_, fun a' W' hC hF => ?_, fun a' W' hC hF => ?_, fun a' W' hC hF => ?_, fun a' W' hC hF => ?_, fun a' W' hC hF => ?_, fun a' W' hC hF => ?_, fun a' W' hC hF => ?_, fun a' W' hC hF => ?_, fun a' W' hC hF => ?_, fun a' W' hC hF => ?_, fun a' W' hC hF => ?_, fun a' W' hC hF => ?_, fun a' W' hC hF => ?_, fun a' W' hC hF => ?_, fun a' W' hC hF => ?_, fun a' W' hC hF => ?_, fun a' W' hC hF => ?_, fun a' W' hC hF => ?_, fun a' W' hC hF => ?_, fun a' W' hC hF => ?_, fun a' W' hC hF => ?_, fun a' W' hC hF => ?_, fun a' W' hC hF => ?_, fun a' W' hC hF => ?_, fun a' W' hC hF => ?_, trivial⟩ ?_
  · exact Tl.st_v 26 _ rfl rfl hC rfl (rn_move rfl ((hF 2 (by decide +kernel)).2 (by decide)))
  · exact Tl.st_v 27 _ rfl rfl hC rfl (rn_eql30 rfl ((hF 26 (by decide +kernel)).1 (by decide)) rfl )
  · exact Tl.st_v 28 _ rfl rfl hC rfl (rn_move rfl ((hF 27 (by decide +kernel)).1 (by decide)))
  · exact Tl.st_val 29 _ rfl (Tl.wanted_is rfl rfl ((hF 28 (by decide +kernel)).1 (by decide))) (rn_move rfl ((hF 1 (by decide +kernel)).2 (by decide))) hC (Below.refl _ _) rfl
  · exact Tl.st_val 30 _ rfl (Tl.wanted_is rfl rfl ((hF 28 (by decide +kernel)).1 (by decide))) (rn_len9x rfl ((hF 29 (by decide +kernel)).1 (by decide)) HX) hC (Below.refl _ _) rfl
  · exact Tl.st_val 31 _ rfl (Tl.wanted_is rfl rfl ((hF 28 (by decide +kernel)).1 (by decide))) (rn_eql3 rfl ((hF 30 (by decide +kernel)).1 (by decide)) rfl ) hC (Below.refl _ _) rfl
  · exact Tl.st_v 32 _ rfl rfl hC rfl (rn_pickT rfl ((hF 28 (by decide +kernel)).1 (by decide)) ((hF 31 (by decide +kernel)).1 (by decide)))
  · exact Tl.st_v 33 _ rfl rfl hC rfl (rn_move rfl ((hF 32 (by decide +kernel)).1 (by decide)))
  · exact Tl.st_val 34 _ rfl (Tl.wanted_is rfl rfl ((hF 33 (by decide +kernel)).1 (by decide))) (rn_move rfl ((hF 1 (by decide +kernel)).2 (by decide))) hC (Below.refl _ _) rfl
  · exact Tl.st_val 35 _ rfl (Tl.wanted_is rfl rfl ((hF 33 (by decide +kernel)).1 (by decide))) (rn_slTx (hi := 19) rfl ((hF 34 (by decide +kernel)).1 (by decide)) rfl (by omega) h19) hC (Below.refl _ _) rfl
  · exact Tl.st_val 36 _ rfl (Tl.wanted_is rfl rfl ((hF 33 (by decide +kernel)).1 (by decide))) (rn_eql9 rfl ((hF 35 (by decide +kernel)).1 (by decide)) rfl ) hC (Below.refl _ _) rfl
  · exact Tl.st_v 37 _ rfl rfl hC rfl (rn_pickT rfl ((hF 33 (by decide +kernel)).1 (by decide)) ((hF 36 (by decide +kernel)).1 (by decide)))
  · exact Tl.st_v 38 _ rfl rfl hC rfl (rn_move rfl ((hF 37 (by decide +kernel)).1 (by decide)))
  · exact Tl.st_val 39 _ rfl (Tl.wanted_is rfl rfl ((hF 38 (by decide +kernel)).1 (by decide))) (rn_move rfl ((hF 1 (by decide +kernel)).2 (by decide))) hC (Below.refl _ _) rfl
  · exact Tl.st_val 40 _ rfl (Tl.wanted_is rfl rfl ((hF 38 (by decide +kernel)).1 (by decide))) (rn_slFx (lo := 19) rfl ((hF 39 (by decide +kernel)).1 (by decide)) rfl (by omega) h51) hC (Below.refl _ _) rfl
  · exact Tl.st_val 41 _ rfl (Tl.wanted_is rfl rfl ((hF 38 (by decide +kernel)).1 (by decide))) (rn_move rfl ((hF 1 (by decide +kernel)).2 (by decide))) hC (Below.refl _ _) rfl
  · exact Tl.st_val 42 _ rfl (Tl.wanted_is rfl rfl ((hF 38 (by decide +kernel)).1 (by decide))) (rn_slTx (hi := 19) rfl ((hF 41 (by decide +kernel)).1 (by decide)) rfl (by omega) h19) hC (Below.refl _ _) rfl
  · exact Tl.st_call 43 11 _ rfl (Tl.wanted_is rfl rfl ((hF 38 (by decide +kernel)).1 (by decide))) (rn_call1 rfl rfl ((hF 42 (by decide +kernel)).1 (by decide)) (enter11 _)) ((HS.out W' (ht.below' hC)).mono fun e w'' h => ⟨_, h.1, belowCall hC h.2, h.2, rfl⟩)
  · exact Tl.st_val 44 _ rfl (Tl.wanted_is rfl rfl ((hF 38 (by decide +kernel)).1 (by decide))) (rn_eql9 rfl ((hF 40 (by decide +kernel)).1 (by decide)) ((hF 43 (by decide +kernel)).1 (by decide)) ) hC (Below.refl _ _) rfl
  · exact Tl.st_v 45 _ rfl rfl hC rfl (rn_pickT rfl ((hF 38 (by decide +kernel)).1 (by decide)) ((hF 44 (by decide +kernel)).1 (by decide)))
  · exact Tl.st_v 46 _ rfl rfl hC rfl (rn_move rfl ((hF 45 (by decide +kernel)).1 (by decide)))
  · exact Tl.st_val 47 _ rfl (Tl.wanted_is rfl rfl ((hF 46 (by decide +kernel)).1 (by decide))) (rn_move rfl ((hF 4 (by decide +kernel)).2 (by decide))) hC (Below.refl _ _) rfl
  · exact Tl.st_val 48 _ rfl (Tl.wanted_is rfl rfl ((hF 46 (by decide +kernel)).1 (by decide))) (rn_eql30 rfl ((hF 47 (by decide +kernel)).1 (by decide)) rfl ) hC (Below.refl _ _) rfl
  · exact Tl.st_v 49 _ rfl rfl hC rfl (rn_pickT rfl ((hF 46 (by decide +kernel)).1 (by decide)) ((hF 48 (by decide +kernel)).1 (by decide)))
  · exact Tl.st_v 50 _ rfl rfl hC rfl (rn_move rfl ((hF 49 (by decide +kernel)).1 (by decide)))
  · exact Tl.st_val 51 _ rfl (Tl.wanted_is rfl rfl ((hF 50 (by decide +kernel)).1 (by decide))) (rn_move rfl ((hF 6 (by decide +kernel)).2 (by decide))) hC (Below.refl _ _) rfl
  · exact Tl.st_val 52 _ rfl (Tl.wanted_is rfl rfl ((hF 50 (by decide +kernel)).1 (by decide))) (rn_eql30 rfl ((hF 51 (by decide +kernel)).1 (by decide)) rfl ) hC (Below.refl _ _) rfl
  · exact Tl.st_v 53 _ rfl rfl hC rfl (rn_pickT rfl ((hF 50 (by decide +kernel)).1 (by decide)) ((hF 52 (by decide +kernel)).1 (by decide)))
  · exact Tl.st_v 54 _ rfl rfl hC rfl (rn_move rfl ((hF 53 (by decide +kernel)).1 (by decide)))
  · exact Tl.st_val 55 _ rfl (Tl.wanted_is rfl rfl ((hF 54 (by decide +kernel)).1 (by decide))) (rn_b24a rfl rfl rfl) hC (Below.refl _ _) rfl
  · exact Tl.st_val 56 _ rfl (Tl.wanted_is rfl rfl ((hF 54 (by decide +kernel)).1 (by decide))) (rn_b24b rfl rfl) hC (Below.refl _ _) rfl
  · exact Tl.st_call 57 13 _ rfl (Tl.wanted_is rfl rfl ((hF 54 (by decide +kernel)).1 (by decide))) (rn_call2 rfl rfl ((hF 55 (by decide +kernel)).1 (by decide)) ((hF 56 (by decide +kernel)).1 (by decide)) (enter13 _)) ((HL.out W').mono fun e w'' h => ⟨_, h.1, belowCall hC h.2, h.2, rfl⟩)
  · exact Tl.st_v 58 _ rfl rfl hC rfl (rn_pickT rfl ((hF 54 (by decide +kernel)).1 (by decide)) ((hF 57 (by decide +kernel)).1 (by decide)))
  · exact Tl.st_v 0 _ rfl rfl hC rfl (rn_assign rfl ((hF 58 (by decide +kernel)).1 (by decide)))
  · intro v W3 T3 hv
    have v0 : v 0 = .bool true := hv 0 (by decide)
    simp only [Tl.fill, v0, List.drop_succ_cons, List.drop_zero, wpList]
    simp only [Act.put, List.setIfInBounds_toArray, List.set_cons_succ, List.set_cons_zero]
    go_wp2_with fail
    go_ret
    exact ⟨rfl, T3⟩
end Go.Proofs.YtnepfllbfagfnaaDoor
