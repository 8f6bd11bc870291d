/- FrameMakes, FrameReads: what they answer. Printed in part by gen_f9.py. -/
import Derived.Test.YtnepfllbfagfnaaDoorF8
namespace Go.Proofs.YtnepfllbfagfnaaDoor
open Go.RowKit
section
variable {ev : Operand → Value} {o : Oper} {w : World} {x y : Operand}
theorem rn_load24 {g k : Nat} {a b : Int} (ho : o.op = .load 24 x) (hx : ev x = .pointer (some ⟨g, k, none⟩)) (hc : w.cell? ⟨g, k, none⟩ = some (.int .i64 a) ∧ w.cell? ⟨g, k + 1, none⟩ = some (.int .i64 b)) : (execOp ev o).run Tryd.prog w = .ok (.value (.agg #[.int .i64 a, .int .i64 b])) w := by
  simp [execOp, ho, hx, go_sem, hc.1, hc.2]
theorem rn_load26 {g k : Nat} {a b : Int} (ho : o.op = .load 26 x) (hx : ev x = .pointer (some ⟨g, k, none⟩)) (hc : w.cell? ⟨g, k, none⟩ = some (.int .i64 a) ∧ w.cell? ⟨g, k + 1, none⟩ = some (.int .i64 b)) : (execOp ev o).run Tryd.prog w = .ok (.value (.agg #[.int .i64 a, .int .i64 b])) w := by
  simp [execOp, ho, hx, go_sem, hc.1, hc.2]
theorem rn_eql9 {u : ByteArray} {t : TypeId} (ho : o.op = .binOp .eql 9 x y t) (hx : ev x = .string u) (hy : ev y = .string u) : (execOp ev o).run Tryd.prog w = .ok (.value (.bool true)) w := by
  simp [execOp, ho, hx, hy, go_sem]
theorem rn_eql30 {u : Int} {t : TypeId} (ho : o.op = .binOp .eql 30 x y t) (hx : ev x = .int .i64 u) (hy : ev y = .int .i64 u) : (execOp ev o).run Tryd.prog w = .ok (.value (.bool true)) w := by
  simp [execOp, ho, hx, hy, go_sem]
theorem rn_eql3 {u : Int} {t : TypeId} (ho : o.op = .binOp .eql 3 x y t) (hx : ev x = .int .i64 u) (hy : ev y = .int .i64 u) : (execOp ev o).run Tryd.prog w = .ok (.value (.bool true)) w := by
  simp [execOp, ho, hx, hy, go_sem]
theorem rn_eql4 {u : Bool} {t : TypeId} (ho : o.op = .binOp .eql 4 x y t) (hx : ev x = .bool u) (hy : ev y = .bool u) : (execOp ev o).run Tryd.prog w = .ok (.value (.bool true)) w := by
  simp [execOp, ho, hx, hy, go_sem]
end
/-- the memory of FrameMakes: two stamps and a code -/
structure MsW (a b c d K N : Int) (w W : World) : Prop where
  h0 : Has W w.heap.size #[.int .i64 a, .int .i64 b] 24
  h1 : Has W (w.heap.size + 1) #[.int .i64 c, .int .i64 d] 24
  h2 : Has W (w.heap.size + 2) #[.int .i64 K, .int .i64 N] 26
  bl : Below w.heap.size w W
theorem MsW.next {a b c d K N : Int} {w W W' : World} (h : MsW a b c d K N w W) (hb : Below W.heap.size W W') : MsW a b c d K N w W' :=
  ⟨h.h0.below hb h.h0.lt, h.h1.below hb h.h1.lt, h.h2.below hb h.h2.lt, belowCall h.bl hb⟩
theorem MsW.drew {a b c d K N : Int} {w W : World} (h : MsW a b c d K N w W) : MsW a b c d K N w W.drew := ⟨h.h0.drew, h.h1.drew, h.h2.drew, h.bl.drew⟩
theorem MsW.start (a b c d K N : Int) (w : World) : MsW a b c d K N w (((w.alloc (.cells #[.int .i64 a, .int .i64 b] 24)).alloc (.cells #[.int .i64 c, .int .i64 d] 24)).alloc (.cells #[.int .i64 K, .int .i64 N] 26)) := by
  obtain ⟨h1, h2, h3, h4⟩ := two_new w #[.int .i64 a, .int .i64 b] #[.int .i64 c, .int .i64 d] 24 24
  exact ⟨h1.alloc _, h2.alloc _, Has.new _ _ _ _ (by simp), belowAlloc h3 _⟩
theorem two_cells {W : World} {g : Nat} {a b : Int} {t : TypeId} (h : Has W g #[.int .i64 a, .int .i64 b] t) : W.cell? ⟨g, 0, none⟩ = some (.int .i64 a) ∧ W.cell? ⟨g, 0 + 1, none⟩ = some (.int .i64 b) := ⟨h.cell 0, h.cell 1⟩
def mv (a b c d R : Int) (Y : ByteArray) (l : Bool) : Nat → Value
  | 37 => .string Y
  | 38 => .string Y
  | 39 => .bool true
  | 40 => .bool true
  | 41 => .int .i64 R
  | 42 => .int .i64 R
  | 43 => .bool true
  | 44 => .bool true
  | 45 => .bool true
  | 46 => .agg #[.int .i64 a, .int .i64 b]
  | 47 => .agg #[.int .i64 c, .int .i64 d]
  | 48 => .bool l
  | 49 => .agg #[.int .i64 a, .int .i64 b]
  | 50 => .agg #[.int .i64 c, .int .i64 d]
  | 51 => .bool l
  | 52 => .bool true
  | 53 => .bool true
  | 8 => .bool true
  | _ => undef
set_option maxRecDepth 20000 in
theorem makes_c1 (a b c d K N : Int) (p : ByteArray) (q0 : (p.size : Int) ≤ 5000) (w : World) (ht : Tabs w) :
    Calls Tryd.prog 4 #[.agg #[.int .i64 a, .int .i64 b], .agg #[.int .i64 c, .int .i64 d], .agg #[.int .i64 K, .int .i64 N], .string p] w fun e w' => e = .returned (.bool true) ∧ Below w.heap.size w w' := by
  have T0 := MsW.start a b c d K N w
  have HM : Hid (∀ W, Tabs W → Calls Tryd.prog 9 #[.agg (frc a b K N p)] W fun e w' => e = .returned (.tuple #[.string (mkD a b K N p), .int .i64 (mkE a b K N p)]) ∧ Below W.heap.size W w') := fun W hW => make_any a b K N p W hW
  have HR : Hid (∀ W, Calls Tryd.prog 12 #[.agg (frc a b K N p)] W fun e w' => e = .returned (.tuple #[.string (mkD a b K N p), .int .i64 (mkE a b K N p)]) ∧ Below W.heap.size W w') := fun W => refMake_any a b K N p W
  have HL : Hid (∀ W, Calls Tryd.prog 13 #[.agg #[.int .i64 a, .int .i64 b], .agg #[.int .i64 c, .int .i64 d]] W fun e w' => e = .returned (.bool (lessB a b c d)) ∧ Below W.heap.size W w') := fun W => less_any a b c d W
  have HK : Hid (∀ W, Calls Tryd.prog 14 #[.agg #[.int .i64 a, .int .i64 b], .agg #[.int .i64 c, .int .i64 d]] W fun e w' => e = .returned (.bool (lessB a b c d)) ∧ Below W.heap.size W w') := fun W => refLess_any a b c d W
  generalize mkD a b K N p = Y at *
  generalize mkE a b K N p = R at *
  generalize lessB a b c d = l at *
  unfold frc at HM HR
  go_enter Tryd.func4, Tryd.ntmps4
  go_wp2_with fail
  refine (HM.out _ (ht.below' T0.bl)).mono ?_
  rintro e w1 ⟨rfl, b1⟩
  have T1 := T0.next b1
  have c0 := (two_cells T1.h0).1
  have c1 := (two_cells T1.h0).2
  have c2 := (two_cells T1.h2).1
  have c3 := (two_cells T1.h2).2
  clear b1 T0 HM
  go_wp2_with fail
  refine (HR.out _).mono ?_
  rintro e w2 ⟨rfl, b2⟩
  have T2 := T1.next b2
  clear b2 T1 c0 c1 c2 c3 HR
  go_wp2_with fail
  refine Tl.wp_tail_lit (by kernel_rfl) 18 [37, 38, 39, 40, 41, 42, 43, 44, 45, 46, 47, 48, 49, 50, 51, 52, 53, 8] 54 rfl (by kernel_rfl) (MsW a b c d K N w) (fun dd v _ => v = mv a b c d R Y l dd) (fun _ _ _ _ h _ => h) T2.drew
    ⟨fun a' W' hC hF => ?_, fun a' W' hC hF => ?_, fun a' W' hC hF => ?_, fun a' W' hC hF => ?_, fun a' W' hC hF => ?_, fun a' W' hC hF => ?_, fun a' W' hC hF => ?_, fun a' W' hC hF => ?_, fun a' W' hC hF => ?_, fun a' W' hC hF => ?_, fun a' W' hC hF => ?_, fun a' W' hC hF => ?_, fun a' W' hC hF => ?_, fun a' W' hC hF => ?_, fun a' W' hC hF => ?_, fun a' W' hC hF => ?_, fun a' W' hC hF => ?_, fun a' W' hC hF => ?_, trivial⟩ ?_
  · exact Tl.st_v 37 _ rfl rfl hC rfl (rn_move rfl ((hF 9 (by decide +kernel)).2 (by decide)))
  · exact Tl.st_v 38 _ rfl rfl hC rfl (rn_move rfl ((hF 11 (by decide +kernel)).2 (by decide)))
  · exact Tl.st_v 39 _ rfl rfl hC rfl (rn_eql9 rfl ((hF 37 (by decide +kernel)).1 (by decide)) ((hF 38 (by decide +kernel)).1 (by decide)) )
  · exact Tl.st_v 40 _ rfl rfl hC rfl (rn_move rfl ((hF 39 (by decide +kernel)).1 (by decide)))
  · exact Tl.st_val 41 _ rfl (Tl.wanted_is rfl rfl ((hF 40 (by decide +kernel)).1 (by decide))) (rn_move rfl ((hF 10 (by decide +kernel)).2 (by decide))) hC (Below.refl _ _) rfl
  · exact Tl.st_val 42 _ rfl (Tl.wanted_is rfl rfl ((hF 40 (by decide +kernel)).1 (by decide))) (rn_move rfl ((hF 12 (by decide +kernel)).2 (by decide))) hC (Below.refl _ _) rfl
  · exact Tl.st_val 43 _ rfl (Tl.wanted_is rfl rfl ((hF 40 (by decide +kernel)).1 (by decide))) (rn_eql30 rfl ((hF 41 (by decide +kernel)).1 (by decide)) ((hF 42 (by decide +kernel)).1 (by decide)) ) hC (Below.refl _ _) rfl
  · exact Tl.st_v 44 _ rfl rfl hC rfl (rn_pickT rfl ((hF 40 (by decide +kernel)).1 (by decide)) ((hF 43 (by decide +kernel)).1 (by decide)))
  · exact Tl.st_v 45 _ rfl rfl hC rfl (rn_move rfl ((hF 44 (by decide +kernel)).1 (by decide)))
  · exact Tl.st_val 46 _ rfl (Tl.wanted_is rfl rfl ((hF 45 (by decide +kernel)).1 (by decide))) (rn_load24 rfl ((hF 4 (by decide +kernel)).2 (by decide)) (two_cells hC.h0)) hC (Below.refl _ _) rfl
  · exact Tl.st_val 47 _ rfl (Tl.wanted_is rfl rfl ((hF 45 (by decide +kernel)).1 (by decide))) (rn_load24 rfl ((hF 5 (by decide +kernel)).2 (by decide)) (two_cells hC.h1)) hC (Below.refl _ _) rfl
  · exact Tl.st_call 48 13 _ rfl (Tl.wanted_is rfl rfl ((hF 45 (by decide +kernel)).1 (by decide))) (rn_call2 rfl rfl ((hF 46 (by decide +kernel)).1 (by decide)) ((hF 47 (by decide +kernel)).1 (by decide)) (enter13 _)) ((HL.out W').mono fun e w'' h => ⟨_, h.1, hC.next h.2, h.2, rfl⟩)
  · exact Tl.st_val 49 _ rfl (Tl.wanted_is rfl rfl ((hF 45 (by decide +kernel)).1 (by decide))) (rn_load24 rfl ((hF 4 (by decide +kernel)).2 (by decide)) (two_cells hC.h0)) hC (Below.refl _ _) rfl
  · exact Tl.st_val 50 _ rfl (Tl.wanted_is rfl rfl ((hF 45 (by decide +kernel)).1 (by decide))) (rn_load24 rfl ((hF 5 (by decide +kernel)).2 (by decide)) (two_cells hC.h1)) hC (Below.refl _ _) rfl
  · exact Tl.st_call 51 14 _ rfl (Tl.wanted_is rfl rfl ((hF 45 (by decide +kernel)).1 (by decide))) (rn_call2 rfl rfl ((hF 49 (by decide +kernel)).1 (by decide)) ((hF 50 (by decide +kernel)).1 (by decide)) (enter14 _)) ((HK.out W').mono fun e w'' h => ⟨_, h.1, hC.next h.2, h.2, rfl⟩)
  · exact Tl.st_val 52 _ rfl (Tl.wanted_is rfl rfl ((hF 45 (by decide +kernel)).1 (by decide))) (rn_eql4 rfl ((hF 48 (by decide +kernel)).1 (by decide)) ((hF 51 (by decide +kernel)).1 (by decide)) ) hC (Below.refl _ _) rfl
  · exact Tl.st_v 53 _ rfl rfl hC rfl (rn_pickT rfl ((hF 45 (by decide +kernel)).1 (by decide)) ((hF 52 (by decide +kernel)).1 (by decide)))
  · exact Tl.st_v 8 _ rfl rfl hC rfl (rn_assign rfl ((hF 53 (by decide +kernel)).1 (by decide)))
  · intro v W3 T3 hv
    have v8 : v 8 = .bool true := hv 8 (by decide)
    simp only [Tl.fill, v8, List.drop_succ_cons, List.drop_zero, wpList]
    simp only [Act.put, List.setIfInBounds_toArray, List.set_cons_succ, List.set_cons_zero]
    go_wp2_with fail
    go_ret
    exact ⟨rfl, T3.bl⟩
set_option maxRecDepth 20000 in
theorem makes_c2 (a b c d K N : Int) (p : ByteArray) (q0 : (5000 : Int) < (p.size : Int)) (q1 : decide ((p.size : Int) < 60000) = false) (w : World) (ht : Tabs w) :
    Calls Tryd.prog 4 #[.agg #[.int .i64 a, .int .i64 b], .agg #[.int .i64 c, .int .i64 d], .agg #[.int .i64 K, .int .i64 N], .string p] w fun e w' => e = .returned (.bool true) ∧ Below w.heap.size w w' := by
  have T0 := MsW.start a b c d K N w
  have HM : Hid (∀ W, Tabs W → Calls Tryd.prog 9 #[.agg (frc a b K N p)] W fun e w' => e = .returned (.tuple #[.string (mkD a b K N p), .int .i64 (mkE a b K N p)]) ∧ Below W.heap.size W w') := fun W hW => make_any a b K N p W hW
  have HR : Hid (∀ W, Calls Tryd.prog 12 #[.agg (frc a b K N p)] W fun e w' => e = .returned (.tuple #[.string (mkD a b K N p), .int .i64 (mkE a b K N p)]) ∧ Below W.heap.size W w') := fun W => refMake_any a b K N p W
  have HL : Hid (∀ W, Calls Tryd.prog 13 #[.agg #[.int .i64 a, .int .i64 b], .agg #[.int .i64 c, .int .i64 d]] W fun e w' => e = .returned (.bool (lessB a b c d)) ∧ Below W.heap.size W w') := fun W => less_any a b c d W
  have HK : Hid (∀ W, Calls Tryd.prog 14 #[.agg #[.int .i64 a, .int .i64 b], .agg #[.int .i64 c, .int .i64 d]] W fun e w' => e = .returned (.bool (lessB a b c d)) ∧ Below W.heap.size W w') := fun W => refLess_any a b c d W
  generalize mkD a b K N p = Y at *
  generalize mkE a b K N p = R at *
  generalize lessB a b c d = l at *
  unfold frc at HM HR
  go_enter Tryd.func4, Tryd.ntmps4
  go_wp2_with fail
  refine (HM.out _ (ht.below' T0.bl)).mono ?_
  rintro e w1 ⟨rfl, b1⟩
  have T1 := T0.next b1
  have c0 := (two_cells T1.h0).1
  have c1 := (two_cells T1.h0).2
  have c2 := (two_cells T1.h2).1
  have c3 := (two_cells T1.h2).2
  clear b1 T0 HM
  go_wp2_with fail
  refine (HR.out _).mono ?_
  rintro e w2 ⟨rfl, b2⟩
  have T2 := T1.next b2
  clear b2 T1 c0 c1 c2 c3 HR
  go_wp2_with fail
  refine Tl.wp_tail_lit (by kernel_rfl) 18 [37, 38, 39, 40, 41, 42, 43, 44, 45, 46, 47, 48, 49, 50, 51, 52, 53, 8] 54 rfl (by kernel_rfl) (MsW a b c d K N w) (fun dd v _ => v = mv a b c d R Y l dd) (fun _ _ _ _ h _ => h) T2.drew
    ⟨fun a' W' hC hF => ?_, fun a' W' hC hF => ?_, fun a' W' hC hF => ?_, fun a' W' hC hF => ?_, fun a' W' hC hF => ?_, fun a' W' hC hF => ?_, fun a' W' hC hF => ?_, fun a' W' hC hF => ?_, fun a' W' hC hF => ?_, fun a' W' hC hF => ?_, fun a' W' hC hF => ?_, fun a' W' hC hF => ?_, fun a' W' hC hF => ?_, fun a' W' hC hF => ?_, fun a' W' hC hF => ?_, fun a' W' hC hF => ?_, fun a' W' hC hF => ?_, fun a' W' hC hF => ?_, trivial⟩ ?_
  · exact Tl.st_v 37 _ rfl rfl hC rfl (rn_move rfl ((hF 9 (by decide +kernel)).2 (by decide)))
  · exact Tl.st_v 38 _ rfl rfl hC rfl (rn_move rfl ((hF 11 (by decide +kernel)).2 (by decide)))
  · exact Tl.st_v 39 _ rfl rfl hC rfl (rn_eql9 rfl ((hF 37 (by decide +kernel)).1 (by decide)) ((hF 38 (by decide +kernel)).1 (by decide)) )
  · exact Tl.st_v 40 _ rfl rfl hC rfl (rn_move rfl ((hF 39 (by decide +kernel)).1 (by decide)))
  · exact Tl.st_val 41 _ rfl (Tl.wanted_is rfl rfl ((hF 40 (by decide +kernel)).1 (by decide))) (rn_move rfl ((hF 10 (by decide +kernel)).2 (by decide))) hC (Below.refl _ _) rfl
  · exact Tl.st_val 42 _ rfl (Tl.wanted_is rfl rfl ((hF 40 (by decide +kernel)).1 (by decide))) (rn_move rfl ((hF 12 (by decide +kernel)).2 (by decide))) hC (Below.refl _ _) rfl
  · exact Tl.st_val 43 _ rfl (Tl.wanted_is rfl rfl ((hF 40 (by decide +kernel)).1 (by decide))) (rn_eql30 rfl ((hF 41 (by decide +kernel)).1 (by decide)) ((hF 42 (by decide +kernel)).1 (by decide)) ) hC (Below.refl _ _) rfl
  · exact Tl.st_v 44 _ rfl rfl hC rfl (rn_pickT rfl ((hF 40 (by decide +kernel)).1 (by decide)) ((hF 43 (by decide +kernel)).1 (by decide)))
  · exact Tl.st_v 45 _ rfl rfl hC rfl (rn_move rfl ((hF 44 (by decide +kernel)).1 (by decide)))
  · exact Tl.st_val 46 _ rfl (Tl.wanted_is rfl rfl ((hF 45 (by decide +kernel)).1 (by decide))) (rn_load24 rfl ((hF 4 (by decide +kernel)).2 (by decide)) (two_cells hC.h0)) hC (Below.refl _ _) rfl
  · exact Tl.st_val 47 _ rfl (Tl.wanted_is rfl rfl ((hF 45 (by decide +kernel)).1 (by decide))) (rn_load24 rfl ((hF 5 (by decide +kernel)).2 (by decide)) (two_cells hC.h1)) hC (Below.refl _ _) rfl
  · exact Tl.st_call 48 13 _ rfl (Tl.wanted_is rfl rfl ((hF 45 (by decide +kernel)).1 (by decide))) (rn_call2 rfl rfl ((hF 46 (by decide +kernel)).1 (by decide)) ((hF 47 (by decide +kernel)).1 (by decide)) (enter13 _)) ((HL.out W').mono fun e w'' h => ⟨_, h.1, hC.next h.2, h.2, rfl⟩)
  · exact Tl.st_val 49 _ rfl (Tl.wanted_is rfl rfl ((hF 45 (by decide +kernel)).1 (by decide))) (rn_load24 rfl ((hF 4 (by decide +kernel)).2 (by decide)) (two_cells hC.h0)) hC (Below.refl _ _) rfl
  · exact Tl.st_val 50 _ rfl (Tl.wanted_is rfl rfl ((hF 45 (by decide +kernel)).1 (by decide))) (rn_load24 rfl ((hF 5 (by decide +kernel)).2 (by decide)) (two_cells hC.h1)) hC (Below.refl _ _) rfl
  · exact Tl.st_call 51 14 _ rfl (Tl.wanted_is rfl rfl ((hF 45 (by decide +kernel)).1 (by decide))) (rn_call2 rfl rfl ((hF 49 (by decide +kernel)).1 (by decide)) ((hF 50 (by decide +kernel)).1 (by decide)) (enter14 _)) ((HK.out W').mono fun e w'' h => ⟨_, h.1, hC.next h.2, h.2, rfl⟩)
  · exact Tl.st_val 52 _ rfl (Tl.wanted_is rfl rfl ((hF 45 (by decide +kernel)).1 (by decide))) (rn_eql4 rfl ((hF 48 (by decide +kernel)).1 (by decide)) ((hF 51 (by decide +kernel)).1 (by decide)) ) hC (Below.refl _ _) rfl
  · exact Tl.st_v 53 _ rfl rfl hC rfl (rn_pickT rfl ((hF 45 (by decide +kernel)).1 (by decide)) ((hF 52 (by decide +kernel)).1 (by decide)))
  · exact Tl.st_v 8 _ rfl rfl hC rfl (rn_assign rfl ((hF 53 (by decide +kernel)).1 (by decide)))
  · intro v W3 T3 hv
    have v8 : v 8 = .bool true := hv 8 (by decide)
    simp only [Tl.fill, v8, List.drop_succ_cons, List.drop_zero, wpList]
    simp only [Act.put, List.setIfInBounds_toArray, List.set_cons_succ, List.set_cons_zero]
    go_wp2_with fail
    go_ret
    exact ⟨rfl, T3.bl⟩
set_option maxRecDepth 20000 in
theorem makes_any (a b c d K N : Int) (p : ByteArray) (w : World) (ht : Tabs w) :
    Calls Tryd.prog 4 #[.agg #[.int .i64 a, .int .i64 b], .agg #[.int .i64 c, .int .i64 d], .agg #[.int .i64 K, .int .i64 N], .string p] w fun e w' => e = .returned (.bool true) ∧ Below w.heap.size w w' := by
  by_cases q : 5000 < p.size ∧ p.size < 60000
  · have T0 := MsW.start a b c d K N w
    have q0 : (5000 : Int) < (p.size : Int) := by omega
    have q1 : (p.size : Int) < 60000 := by omega
    clear q
    go_enter Tryd.func4, Tryd.ntmps4
    go_wp2_with fail
    go_ret
    exact ⟨rfl, T0.bl⟩
  · by_cases hq : p.size ≤ 5000
    · exact makes_c1 a b c d K N p (by omega) w ht
    · exact makes_c2 a b c d K N p (by omega) (decide_eq_false (by omega)) w ht
def rE (s : ByteArray) : Int := if rdOk s then fN s 4 else 0
def rG (s : ByteArray) : Int := if rdOk s then fN s 8 else 0
def rK (s : ByteArray) : Int := if rdOk s then fB s 12 else 0
def rN (s : ByteArray) : Int := if rdOk s then fB s 13 else 0
def rP (s : ByteArray) : ByteArray := if rdOk s then fP s else ⟨#[]⟩
def rR (s : ByteArray) : Int := if rdOk s then 0 else 4
theorem rdV_eq (s : ByteArray) : rdV s = .tuple #[.agg (frc (rE s) (rG s) (rK s) (rN s) (rP s)), .int .i64 (rR s)] := by
  unfold rdV rE rG rK rN rP rR
  cases rdOk s <;> rfl
theorem both_rd (t : ByteArray) : ∃ (E G K N : Int) (p : ByteArray) (R : Int), Hid (∀ W, Tabs W → Calls Tryd.prog 10 #[.string t] W fun e w' => e = .returned (.tuple #[.agg #[.int .i64 E, .int .i64 G, .int .i64 K, .int .i64 N, .string p], .int .i64 R]) ∧ Below W.heap.size W w') ∧ Hid (∀ W, Calls Tryd.prog 16 #[.string t] W fun e w' => e = .returned (.tuple #[.agg #[.int .i64 E, .int .i64 G, .int .i64 K, .int .i64 N, .string p], .int .i64 R]) ∧ Below W.heap.size W w') :=
  ⟨rE t, rG t, rK t, rN t, rP t, rR t, fun W hW => by have := read_any t W hW; rw [rdV_eq] at this; exact this, fun W => by have := refRead_any t W; rw [rdV_eq] at this; exact this⟩
set_option maxRecDepth 20000 in
theorem reads_any (s : ByteArray) (w : World) (ht : Tabs w) :
    Calls Tryd.prog 5 #[.string s] w fun e w' => e = .returned (.bool true) ∧ Below w.heap.size w w' := by
  go_enter Tryd.func5, Tryd.ntmps5
  by_cases q : 5000 < s.size
  · have q0 : (5000 : Int) < (s.size : Int) := by omega
    go_wp2_with fail
    go_ret
    exact ⟨rfl, Below.refl _ _⟩
  · have q0 : ¬ (5000 : Int) < (s.size : Int) := by omega
    have HD := hidR (refSum_any s (by omega))
    have hz : ¬ 9223372036854775807 < s.size + (ofBs (Sha.digest (bs s))).size := by rw [ofBs_size, digest_length]; omega
    generalize ofBs (Sha.digest (bs s)) = D at *
    go_wp2_with fail
    refine (HD.out _).mono ?_
    rintro e w1 ⟨rfl, b1⟩
    go_wp2_with fail
    have HB : Hid (∀ W, Below (w1.alloc (.cells #[.string s, .string (s ++ D)] 9)).heap.size (w1.alloc (.cells #[.string s, .string (s ++ D)] 9)) W → Below w.heap.size w W ∧ Tabs W ∧ W.cell? ⟨w1.heap.size, 0, none⟩ = some (.string s) ∧ W.cell? ⟨w1.heap.size, 1, none⟩ = some (.string (s ++ D))) := fun W hb => by
      have h0 : Has (w1.alloc (.cells #[.string s, .string (s ++ D)] 9)) w1.heap.size #[.string s, .string (s ++ D)] 9 := Has.new _ _ _ _ rfl
      have h1 := h0.below hb h0.lt
      have hbw := belowCall (belowAlloc b1 _) hb
      exact ⟨hbw, ht.below' hbw, h1.cell 0, h1.cell 1⟩
    clear b1 hz
    obtain ⟨E0, G0, K0, N0, p0, R0, A0, B0⟩ := both_rd s
    obtain ⟨E1, G1, K1, N1, p1, R1, A1, B1⟩ := both_rd (s ++ D)
    refine wp_loop_rounds 3 ?_
    rw [rounds_succ]
    go_wp2_with fail
    refine (A0.out _ (HB.out _ (Below.refl _ _)).2.1).mono ?_
    rintro e w2 ⟨rfl, b2⟩
    go_wp2_with fail
    refine (B0.out _).mono ?_
    rintro e w3 ⟨rfl, b3⟩
    have hf : Has (w2.alloc (.cells #[.int .i64 E0, .int .i64 G0, .int .i64 K0, .int .i64 N0, .string p0] 28)) w2.heap.size (frc E0 G0 K0 N0 p0) 28 := Has.new _ _ _ _ rfl
    have hf3 := hf.below b3 hf.lt
    have k3 := hidR (fun o => belowAlloc (belowCall (belowAlloc b2 _) b3) o)
    have c0 := fun o => (frc_cells (hf3.alloc o)).1
    have c1 := fun o => (frc_cells (hf3.alloc o)).2.1
    have c2 := fun o => (frc_cells (hf3.alloc o)).2.2.1
    have c3 := fun o => (frc_cells (hf3.alloc o)).2.2.2.1
    have c4 := fun o => (frc_cells (hf3.alloc o)).2.2.2.2
    have d1 := fun o => (HB.out _ (k3.out o)).2.2.2
    clear b2 b3 hf
    go_wp2_with fail
    clear hf3 c0 c1 c2 c3 c4
    rw [rounds_succ]
    go_wp2_with fail
    refine (A1.out _ (HB.out _ (k3.out _)).2.1).mono ?_
    rintro e w4 ⟨rfl, b4⟩
    have b4' := hidR (belowCall (k3.out _) b4)
    clear b4 k3 d1
    go_wp2_with fail
    refine (B1.out _).mono ?_
    rintro e w5 ⟨rfl, b5⟩
    have hf : Has (w4.alloc (.cells #[.int .i64 E1, .int .i64 G1, .int .i64 K1, .int .i64 N1, .string p1] 28)) w4.heap.size (frc E1 G1 K1 N1 p1) 28 := Has.new _ _ _ _ rfl
    have hf3 := hf.below b5 hf.lt
    have k5 := hidR (fun o => belowAlloc (belowCall (belowAlloc b4'.out _) b5) o)
    have c0 := fun o => (frc_cells (hf3.alloc o)).1
    have c1 := fun o => (frc_cells (hf3.alloc o)).2.1
    have c2 := fun o => (frc_cells (hf3.alloc o)).2.2.1
    have c3 := fun o => (frc_cells (hf3.alloc o)).2.2.2.1
    have c4 := fun o => (frc_cells (hf3.alloc o)).2.2.2.2
    clear b5 hf b4'
    go_wp2_with fail
    clear hf3 c0 c1 c2 c3 c4
    rw [rounds_succ]
    go_wp2_with fail
    go_ret
    exact ⟨rfl, (HB.out _ (k5.out _)).1⟩
end Go.Proofs.YtnepfllbfagfnaaDoor
