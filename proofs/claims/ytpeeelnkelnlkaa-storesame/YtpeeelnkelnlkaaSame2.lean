/- The contract of Same. -/
import Derived.Test.YtpeeelnkelnlkaaSame
namespace Go.Proofs.Ytpeeelnkelnlkaa
open Go.RowKit Go.Maps
section
variable {ev : Operand → Value} {o : Oper} {w : World} {x y z : Operand}
theorem enter41 (args : Array Value) : (callFunc 41 args).run Try.prog w = .ok (.enter 41 args) w := by kernel_rfl
theorem enter42 (args : Array Value) : (callFunc 42 args).run Try.prog w = .ok (.enter 42 args) w := by kernel_rfl
theorem rn_pickT {v : Value} (ho : o.op = .pick x y z) (hx : ev x = .bool true) (hy : ev y = v) : (execOp ev o).run Try.prog w = .ok (.value v) w := by
  subst hy; simp [execOp, ho, hx, go_sem]
theorem rn_pickF {v : Value} (ho : o.op = .pick x y z) (hx : ev x = .bool false) (hz : ev z = v) : (execOp ev o).run Try.prog w = .ok (.value v) w := by
  subst hz; simp [execOp, ho, hx, go_sem]
theorem rn_eql4 {u v c : Bool} (ho : o.op = .binOp .eql 4 x y 4) (hx : ev x = .bool u) (hy : ev y = .bool v) (hc : decide (u = v) = c) : (execOp ev o).run Try.prog w = .ok (.value (.bool c)) w := by
  subst hc
  cases u <;> cases v <;> simp [execOp, ho, hx, hy, go_sem]
theorem onat_eq {c d : Option Nat} : (c = d) = (c.isSome = d.isSome ∧ ((c.getD 0 : Nat) : Int) = ((d.getD 0 : Nat) : Int)) := by
  apply propext
  cases c <;> cases d <;> simp <;> omega
theorem rn_eql61 {c d : Option Nat} {r : Bool} (ho : o.op = .binOp .eql 61 x y 61) (hx : ev x = .agg #[.bool c.isSome, .int .i64 ((c.getD 0 : Nat) : Int)]) (hy : ev y = .agg #[.bool d.isSome, .int .i64 ((d.getD 0 : Nat) : Int)]) (hr : decide (c = d) = r) : (execOp ev o).run Try.prog w = .ok (.value (.bool r)) w := by
  subst hr
  have h1 := eql61 w c.isSome d.isSome ((c.getD 0 : Nat) : Int) ((d.getD 0 : Nat) : Int)
  have h2 := fun a b u v => gd61 .eql w a b u v
  have e : decide (c.isSome = d.isSome ∧ ((c.getD 0 : Nat) : Int) = ((d.getD 0 : Nat) : Int)) = decide (c = d) := decide_eq_decide.2 (by rw [onat_eq])
  rw [e] at h1
  unfold execOp
  simp only [ho, hx, hy, Sem.run_bind, h1, h2, Result.andThen_ok, Sem.run_pure]
end
def sameS (s t : St) : Bool := decide (s.down = t.down) && (decide (s.refuse = t.refuse) && (decide (s.room = t.room) && (decide (s.seen = t.seen) && decide (s.writes = t.writes))))
def sF0 (b1 b2 : Nat) (s t : St) (_mo1 _mo2 : Option Nat) (_wv1 _wv2 : Value) (x0 _x1 _x2 _x3 _x4 : Bool) (i : Nat) (v : Value) (_ : World) : Prop := match i with
  | 14 => v = ptr b1
  | 15 => v = ptr b1
  | 16 => v = .pointer (some ⟨b1, 2, none⟩)
  | 17 => v = .bool s.down
  | 18 => v = ptr b2
  | 19 => v = ptr b2
  | 20 => v = .pointer (some ⟨b2, 2, none⟩)
  | 21 => v = .bool t.down
  | 22 => v = .bool x0
  | 23 => v = .bool x0
  | 33 => v = .bool false
  | 34 => v = .bool false
  | 44 => v = .bool false
  | 45 => v = .bool false
  | 55 => v = .bool false
  | 56 => v = .bool false
  | 66 => v = .bool false
  | 4 => v = .bool false
  | _ => True
def sF1 (b1 b2 : Nat) (s t : St) (_mo1 _mo2 : Option Nat) (_wv1 _wv2 : Value) (x0 x1 _x2 _x3 _x4 : Bool) (i : Nat) (v : Value) (_ : World) : Prop := match i with
  | 14 => v = ptr b1
  | 15 => v = ptr b1
  | 16 => v = .pointer (some ⟨b1, 2, none⟩)
  | 17 => v = .bool s.down
  | 18 => v = ptr b2
  | 19 => v = ptr b2
  | 20 => v = .pointer (some ⟨b2, 2, none⟩)
  | 21 => v = .bool t.down
  | 22 => v = .bool x0
  | 23 => v = .bool x0
  | 24 => v = ptr b1
  | 25 => v = ptr b1
  | 26 => v = .pointer (some ⟨b1, 3, none⟩)
  | 27 => v = .agg #[.bool s.refuse.isSome, .int .i64 ((s.refuse.getD 0 : Nat) : Int)]
  | 28 => v = ptr b2
  | 29 => v = ptr b2
  | 30 => v = .pointer (some ⟨b2, 3, none⟩)
  | 31 => v = .agg #[.bool t.refuse.isSome, .int .i64 ((t.refuse.getD 0 : Nat) : Int)]
  | 32 => v = .bool x1
  | 33 => v = .bool x1
  | 34 => v = .bool x1
  | 44 => v = .bool false
  | 45 => v = .bool false
  | 55 => v = .bool false
  | 56 => v = .bool false
  | 66 => v = .bool false
  | 4 => v = .bool false
  | _ => True
def sF2 (b1 b2 : Nat) (s t : St) (_mo1 _mo2 : Option Nat) (_wv1 _wv2 : Value) (x0 x1 x2 _x3 _x4 : Bool) (i : Nat) (v : Value) (_ : World) : Prop := match i with
  | 14 => v = ptr b1
  | 15 => v = ptr b1
  | 16 => v = .pointer (some ⟨b1, 2, none⟩)
  | 17 => v = .bool s.down
  | 18 => v = ptr b2
  | 19 => v = ptr b2
  | 20 => v = .pointer (some ⟨b2, 2, none⟩)
  | 21 => v = .bool t.down
  | 22 => v = .bool x0
  | 23 => v = .bool x0
  | 24 => v = ptr b1
  | 25 => v = ptr b1
  | 26 => v = .pointer (some ⟨b1, 3, none⟩)
  | 27 => v = .agg #[.bool s.refuse.isSome, .int .i64 ((s.refuse.getD 0 : Nat) : Int)]
  | 28 => v = ptr b2
  | 29 => v = ptr b2
  | 30 => v = .pointer (some ⟨b2, 3, none⟩)
  | 31 => v = .agg #[.bool t.refuse.isSome, .int .i64 ((t.refuse.getD 0 : Nat) : Int)]
  | 32 => v = .bool x1
  | 33 => v = .bool x1
  | 34 => v = .bool x1
  | 35 => v = ptr b1
  | 36 => v = ptr b1
  | 37 => v = .pointer (some ⟨b1, 5, none⟩)
  | 38 => v = .agg #[.bool s.room.isSome, .int .i64 ((s.room.getD 0 : Nat) : Int)]
  | 39 => v = ptr b2
  | 40 => v = ptr b2
  | 41 => v = .pointer (some ⟨b2, 5, none⟩)
  | 42 => v = .agg #[.bool t.room.isSome, .int .i64 ((t.room.getD 0 : Nat) : Int)]
  | 43 => v = .bool x2
  | 44 => v = .bool x2
  | 45 => v = .bool x2
  | 55 => v = .bool false
  | 56 => v = .bool false
  | 66 => v = .bool false
  | 4 => v = .bool false
  | _ => True
def sF3 (b1 b2 : Nat) (s t : St) (mo1 mo2 : Option Nat) (_wv1 _wv2 : Value) (x0 x1 x2 x3 _x4 : Bool) (i : Nat) (v : Value) (_ : World) : Prop := match i with
  | 14 => v = ptr b1
  | 15 => v = ptr b1
  | 16 => v = .pointer (some ⟨b1, 2, none⟩)
  | 17 => v = .bool s.down
  | 18 => v = ptr b2
  | 19 => v = ptr b2
  | 20 => v = .pointer (some ⟨b2, 2, none⟩)
  | 21 => v = .bool t.down
  | 22 => v = .bool x0
  | 23 => v = .bool x0
  | 24 => v = ptr b1
  | 25 => v = ptr b1
  | 26 => v = .pointer (some ⟨b1, 3, none⟩)
  | 27 => v = .agg #[.bool s.refuse.isSome, .int .i64 ((s.refuse.getD 0 : Nat) : Int)]
  | 28 => v = ptr b2
  | 29 => v = ptr b2
  | 30 => v = .pointer (some ⟨b2, 3, none⟩)
  | 31 => v = .agg #[.bool t.refuse.isSome, .int .i64 ((t.refuse.getD 0 : Nat) : Int)]
  | 32 => v = .bool x1
  | 33 => v = .bool x1
  | 34 => v = .bool x1
  | 35 => v = ptr b1
  | 36 => v = ptr b1
  | 37 => v = .pointer (some ⟨b1, 5, none⟩)
  | 38 => v = .agg #[.bool s.room.isSome, .int .i64 ((s.room.getD 0 : Nat) : Int)]
  | 39 => v = ptr b2
  | 40 => v = ptr b2
  | 41 => v = .pointer (some ⟨b2, 5, none⟩)
  | 42 => v = .agg #[.bool t.room.isSome, .int .i64 ((t.room.getD 0 : Nat) : Int)]
  | 43 => v = .bool x2
  | 44 => v = .bool x2
  | 45 => v = .bool x2
  | 46 => v = ptr b1
  | 47 => v = ptr b1
  | 48 => v = .pointer (some ⟨b1, 0, none⟩)
  | 49 => v = .map mo1
  | 50 => v = ptr b2
  | 51 => v = ptr b2
  | 52 => v = .pointer (some ⟨b2, 0, none⟩)
  | 53 => v = .map mo2
  | 54 => v = .bool x3
  | 55 => v = .bool x3
  | 56 => v = .bool x3
  | 66 => v = .bool false
  | 4 => v = .bool false
  | _ => True
def sF4 (b1 b2 : Nat) (s t : St) (mo1 mo2 : Option Nat) (wv1 wv2 : Value) (x0 x1 x2 x3 x4 : Bool) (i : Nat) (v : Value) (_ : World) : Prop := match i with
  | 14 => v = ptr b1
  | 15 => v = ptr b1
  | 16 => v = .pointer (some ⟨b1, 2, none⟩)
  | 17 => v = .bool s.down
  | 18 => v = ptr b2
  | 19 => v = ptr b2
  | 20 => v = .pointer (some ⟨b2, 2, none⟩)
  | 21 => v = .bool t.down
  | 22 => v = .bool x0
  | 23 => v = .bool x0
  | 24 => v = ptr b1
  | 25 => v = ptr b1
  | 26 => v = .pointer (some ⟨b1, 3, none⟩)
  | 27 => v = .agg #[.bool s.refuse.isSome, .int .i64 ((s.refuse.getD 0 : Nat) : Int)]
  | 28 => v = ptr b2
  | 29 => v = ptr b2
  | 30 => v = .pointer (some ⟨b2, 3, none⟩)
  | 31 => v = .agg #[.bool t.refuse.isSome, .int .i64 ((t.refuse.getD 0 : Nat) : Int)]
  | 32 => v = .bool x1
  | 33 => v = .bool x1
  | 34 => v = .bool x1
  | 35 => v = ptr b1
  | 36 => v = ptr b1
  | 37 => v = .pointer (some ⟨b1, 5, none⟩)
  | 38 => v = .agg #[.bool s.room.isSome, .int .i64 ((s.room.getD 0 : Nat) : Int)]
  | 39 => v = ptr b2
  | 40 => v = ptr b2
  | 41 => v = .pointer (some ⟨b2, 5, none⟩)
  | 42 => v = .agg #[.bool t.room.isSome, .int .i64 ((t.room.getD 0 : Nat) : Int)]
  | 43 => v = .bool x2
  | 44 => v = .bool x2
  | 45 => v = .bool x2
  | 46 => v = ptr b1
  | 47 => v = ptr b1
  | 48 => v = .pointer (some ⟨b1, 0, none⟩)
  | 49 => v = .map mo1
  | 50 => v = ptr b2
  | 51 => v = ptr b2
  | 52 => v = .pointer (some ⟨b2, 0, none⟩)
  | 53 => v = .map mo2
  | 54 => v = .bool x3
  | 55 => v = .bool x3
  | 56 => v = .bool x3
  | 57 => v = ptr b1
  | 58 => v = ptr b1
  | 59 => v = .pointer (some ⟨b1, 1, none⟩)
  | 60 => v = wv1
  | 61 => v = ptr b2
  | 62 => v = ptr b2
  | 63 => v = .pointer (some ⟨b2, 1, none⟩)
  | 64 => v = wv2
  | 65 => v = .bool x4
  | 66 => v = .bool x4
  | 4 => v = .bool x4
  | _ => True
set_option maxHeartbeats 4000000 in
set_option maxRecDepth 20000 in
theorem same_0 {w : World} {b1 b2 : Nat} {s t : St} {mo1 mo2 : Option Nat} {wv1 wv2 : Value} (h1 : Has w b1 (scells mo1 wv1 s) 63) (h2 : Has w b2 (scells mo2 wv2 t) 63) (_m1 : MapV w mo1 s.seen) (_m2 : MapV w mo2 t.seen) (_r1 : w.ownsRow 0 83 5 wv1 s.writes.length (s.writes.flatMap wcells)) (_r2 : w.ownsRow 0 83 5 wv2 t.writes.length (t.writes.flatMap wcells))  (e0 : decide (s.down = t.down) = false) : Calls Try.prog 23 #[ptr b1, ptr b2] w fun e w' => e = .returned (.bool false) ∧ Below w.heap.size w w' := by
  obtain ⟨c0, c1, c2, c3, c4, c5, c6⟩ := scells_cell h1
  obtain ⟨d0, d1, d2, d3, d4, d5, d6⟩ := scells_cell h2
  have hl1 : b1 < w.drew.heap.size := h1.lt
  have hl2 : b2 < w.drew.heap.size := h2.lt
  clear h1 h2
  unfold ptr
  go_enter Try.func23, Try.ntmps23
  go_wp2_with fail
  refine Tl.wp_mix_lit (by kernel_rfl) 54 [14, 15, 16, 17, 18, 19, 20, 21, 22, 23, 24, 25, 26, 27, 28, 29, 30, 31, 32, 33, 34, 35, 36, 37, 38, 39, 40, 41, 42, 43, 44, 45, 46, 47, 48, 49, 50, 51, 52, 53, 54, 55, 56, 57, 58, 59, 60, 61, 62, 63, 64, 65, 66, 4] 67 rfl (by kernel_rfl) (BelW w.drew) (sF0 b1 b2 s t mo1 mo2 wv1 wv2 false true true true true) (Below.refl _ _)
    ⟨fun a' W' hC hF => ?_, fun a' W' hC hF => ?_, fun a' W' hC hF => ?_, fun a' W' hC hF => ?_, fun a' W' hC hF => ?_, fun a' W' hC hF => ?_, fun a' W' hC hF => ?_, fun a' W' hC hF => ?_, fun a' W' hC hF => ?_, fun a' W' hC hF => ?_, fun a' W' hC hF => ?_, fun a' W' hC hF => ?_, fun a' W' hC hF => ?_, fun a' W' hC hF => ?_, fun a' W' hC hF => ?_, fun a' W' hC hF => ?_, fun a' W' hC hF => ?_, fun a' W' hC hF => ?_, fun a' W' hC hF => ?_, fun a' W' hC hF => ?_, fun a' W' hC hF => ?_, fun a' W' hC hF => ?_, fun a' W' hC hF => ?_, fun a' W' hC hF => ?_, fun a' W' hC hF => ?_, fun a' W' hC hF => ?_, fun a' W' hC hF => ?_, fun a' W' hC hF => ?_, fun a' W' hC hF => ?_, fun a' W' hC hF => ?_, fun a' W' hC hF => ?_, fun a' W' hC hF => ?_, fun a' W' hC hF => ?_, fun a' W' hC hF => ?_, fun a' W' hC hF => ?_, fun a' W' hC hF => ?_, fun a' W' hC hF => ?_, fun a' W' hC hF => ?_, fun a' W' hC hF => ?_, fun a' W' hC hF => ?_, fun a' W' hC hF => ?_, fun a' W' hC hF => ?_, fun a' W' hC hF => ?_, fun a' W' hC hF => ?_, fun a' W' hC hF => ?_, fun a' W' hC hF => ?_, fun a' W' hC hF => ?_, fun a' W' hC hF => ?_, fun a' W' hC hF => ?_, fun a' W' hC hF => ?_, fun a' W' hC hF => ?_, fun a' W' hC hF => ?_, fun a' W' hC hF => ?_, fun a' W' hC hF => ?_, trivial⟩ ?_
  · exact Tl.sm_v 14 _ rfl (Tl.wanted_none rfl) hC rfl (rn_move rfl ((hF 0 (by decide +kernel)).2 (by decide)))
  · exact Tl.sm_v 15 _ rfl (Tl.wanted_none rfl) hC rfl (rn_nilCheck rfl ((hF 14 (by decide +kernel)).1 (by decide)))
  · exact Tl.sm_v 16 _ rfl (Tl.wanted_none rfl) hC rfl (rn_f63_2 rfl ((hF 15 (by decide +kernel)).1 (by decide)))
  · exact Tl.sm_v 17 _ rfl (Tl.wanted_none rfl) hC rfl (rn_load4 rfl ((hF 16 (by decide +kernel)).1 (by decide)) (hC.cell (p := ⟨b1, 2, none⟩) hl1 c2))
  · exact Tl.sm_v 18 _ rfl (Tl.wanted_none rfl) hC rfl (rn_move rfl ((hF 1 (by decide +kernel)).2 (by decide)))
  · exact Tl.sm_v 19 _ rfl (Tl.wanted_none rfl) hC rfl (rn_nilCheck rfl ((hF 18 (by decide +kernel)).1 (by decide)))
  · exact Tl.sm_v 20 _ rfl (Tl.wanted_none rfl) hC rfl (rn_f63_2 rfl ((hF 19 (by decide +kernel)).1 (by decide)))
  · exact Tl.sm_v 21 _ rfl (Tl.wanted_none rfl) hC rfl (rn_load4 rfl ((hF 20 (by decide +kernel)).1 (by decide)) (hC.cell (p := ⟨b2, 2, none⟩) hl2 d2))
  · exact Tl.sm_v 22 _ rfl (Tl.wanted_none rfl) hC rfl (rn_eql4 rfl ((hF 17 (by decide +kernel)).1 (by decide)) ((hF 21 (by decide +kernel)).1 (by decide)) e0)
  · exact Tl.sm_v 23 _ rfl (Tl.wanted_none rfl) hC rfl (rn_move rfl ((hF 22 (by decide +kernel)).1 (by decide)))
  · exact Tl.sm_skip (Tl.wanted_not rfl rfl ((hF 23 (by decide +kernel)).1 (by decide))) (fun d hd => by cases hd; trivial)
  · exact Tl.sm_skip (Tl.wanted_not rfl rfl ((hF 23 (by decide +kernel)).1 (by decide))) (fun d hd => by cases hd; trivial)
  · exact Tl.sm_skip (Tl.wanted_not rfl rfl ((hF 23 (by decide +kernel)).1 (by decide))) (fun d hd => by cases hd; trivial)
  · exact Tl.sm_skip (Tl.wanted_not rfl rfl ((hF 23 (by decide +kernel)).1 (by decide))) (fun d hd => by cases hd; trivial)
  · exact Tl.sm_skip (Tl.wanted_not rfl rfl ((hF 23 (by decide +kernel)).1 (by decide))) (fun d hd => by cases hd; trivial)
  · exact Tl.sm_skip (Tl.wanted_not rfl rfl ((hF 23 (by decide +kernel)).1 (by decide))) (fun d hd => by cases hd; trivial)
  · exact Tl.sm_skip (Tl.wanted_not rfl rfl ((hF 23 (by decide +kernel)).1 (by decide))) (fun d hd => by cases hd; trivial)
  · exact Tl.sm_skip (Tl.wanted_not rfl rfl ((hF 23 (by decide +kernel)).1 (by decide))) (fun d hd => by cases hd; trivial)
  · exact Tl.sm_skip (Tl.wanted_not rfl rfl ((hF 23 (by decide +kernel)).1 (by decide))) (fun d hd => by cases hd; trivial)
  · exact Tl.sm_v 33 _ rfl (Tl.wanted_none rfl) hC rfl (rn_pickF rfl ((hF 23 (by decide +kernel)).1 (by decide)) rfl)
  · exact Tl.sm_v 34 _ rfl (Tl.wanted_none rfl) hC rfl (rn_move rfl ((hF 33 (by decide +kernel)).1 (by decide)))
  · exact Tl.sm_skip (Tl.wanted_not rfl rfl ((hF 34 (by decide +kernel)).1 (by decide))) (fun d hd => by cases hd; trivial)
  · exact Tl.sm_skip (Tl.wanted_not rfl rfl ((hF 34 (by decide +kernel)).1 (by decide))) (fun d hd => by cases hd; trivial)
  · exact Tl.sm_skip (Tl.wanted_not rfl rfl ((hF 34 (by decide +kernel)).1 (by decide))) (fun d hd => by cases hd; trivial)
  · exact Tl.sm_skip (Tl.wanted_not rfl rfl ((hF 34 (by decide +kernel)).1 (by decide))) (fun d hd => by cases hd; trivial)
  · exact Tl.sm_skip (Tl.wanted_not rfl rfl ((hF 34 (by decide +kernel)).1 (by decide))) (fun d hd => by cases hd; trivial)
  · exact Tl.sm_skip (Tl.wanted_not rfl rfl ((hF 34 (by decide +kernel)).1 (by decide))) (fun d hd => by cases hd; trivial)
  · exact Tl.sm_skip (Tl.wanted_not rfl rfl ((hF 34 (by decide +kernel)).1 (by decide))) (fun d hd => by cases hd; trivial)
  · exact Tl.sm_skip (Tl.wanted_not rfl rfl ((hF 34 (by decide +kernel)).1 (by decide))) (fun d hd => by cases hd; trivial)
  · exact Tl.sm_skip (Tl.wanted_not rfl rfl ((hF 34 (by decide +kernel)).1 (by decide))) (fun d hd => by cases hd; trivial)
  · exact Tl.sm_v 44 _ rfl (Tl.wanted_none rfl) hC rfl (rn_pickF rfl ((hF 34 (by decide +kernel)).1 (by decide)) rfl)
  · exact Tl.sm_v 45 _ rfl (Tl.wanted_none rfl) hC rfl (rn_move rfl ((hF 44 (by decide +kernel)).1 (by decide)))
  · exact Tl.sm_skip (Tl.wanted_not rfl rfl ((hF 45 (by decide +kernel)).1 (by decide))) (fun d hd => by cases hd; trivial)
  · exact Tl.sm_skip (Tl.wanted_not rfl rfl ((hF 45 (by decide +kernel)).1 (by decide))) (fun d hd => by cases hd; trivial)
  · exact Tl.sm_skip (Tl.wanted_not rfl rfl ((hF 45 (by decide +kernel)).1 (by decide))) (fun d hd => by cases hd; trivial)
  · exact Tl.sm_skip (Tl.wanted_not rfl rfl ((hF 45 (by decide +kernel)).1 (by decide))) (fun d hd => by cases hd; trivial)
  · exact Tl.sm_skip (Tl.wanted_not rfl rfl ((hF 45 (by decide +kernel)).1 (by decide))) (fun d hd => by cases hd; trivial)
  · exact Tl.sm_skip (Tl.wanted_not rfl rfl ((hF 45 (by decide +kernel)).1 (by decide))) (fun d hd => by cases hd; trivial)
  · exact Tl.sm_skip (Tl.wanted_not rfl rfl ((hF 45 (by decide +kernel)).1 (by decide))) (fun d hd => by cases hd; trivial)
  · exact Tl.sm_skip (Tl.wanted_not rfl rfl ((hF 45 (by decide +kernel)).1 (by decide))) (fun d hd => by cases hd; trivial)
  · exact Tl.sm_skip (Tl.wanted_not rfl rfl ((hF 45 (by decide +kernel)).1 (by decide))) (fun d hd => by cases hd; trivial)
  · exact Tl.sm_v 55 _ rfl (Tl.wanted_none rfl) hC rfl (rn_pickF rfl ((hF 45 (by decide +kernel)).1 (by decide)) rfl)
  · exact Tl.sm_v 56 _ rfl (Tl.wanted_none rfl) hC rfl (rn_move rfl ((hF 55 (by decide +kernel)).1 (by decide)))
  · exact Tl.sm_skip (Tl.wanted_not rfl rfl ((hF 56 (by decide +kernel)).1 (by decide))) (fun d hd => by cases hd; trivial)
  · exact Tl.sm_skip (Tl.wanted_not rfl rfl ((hF 56 (by decide +kernel)).1 (by decide))) (fun d hd => by cases hd; trivial)
  · exact Tl.sm_skip (Tl.wanted_not rfl rfl ((hF 56 (by decide +kernel)).1 (by decide))) (fun d hd => by cases hd; trivial)
  · exact Tl.sm_skip (Tl.wanted_not rfl rfl ((hF 56 (by decide +kernel)).1 (by decide))) (fun d hd => by cases hd; trivial)
  · exact Tl.sm_skip (Tl.wanted_not rfl rfl ((hF 56 (by decide +kernel)).1 (by decide))) (fun d hd => by cases hd; trivial)
  · exact Tl.sm_skip (Tl.wanted_not rfl rfl ((hF 56 (by decide +kernel)).1 (by decide))) (fun d hd => by cases hd; trivial)
  · exact Tl.sm_skip (Tl.wanted_not rfl rfl ((hF 56 (by decide +kernel)).1 (by decide))) (fun d hd => by cases hd; trivial)
  · exact Tl.sm_skip (Tl.wanted_not rfl rfl ((hF 56 (by decide +kernel)).1 (by decide))) (fun d hd => by cases hd; trivial)
  · exact Tl.sm_skip (Tl.wanted_not rfl rfl ((hF 56 (by decide +kernel)).1 (by decide))) (fun d hd => by cases hd; trivial)
  · exact Tl.sm_v 66 _ rfl (Tl.wanted_none rfl) hC rfl (rn_pickF rfl ((hF 56 (by decide +kernel)).1 (by decide)) rfl)
  · exact Tl.sm_v 4 _ rfl (Tl.wanted_none rfl) hC rfl (rn_assign rfl ((hF 66 (by decide +kernel)).1 (by decide)))
  intro v wB hw hv
  have v4 : v 4 = .bool false := hv 4 (by decide)
  have HW := hid (show Below w.heap.size w wB from (Below.refl w.heap.size w).drew.trans hw)
  clear hv hw
  simp only [Tl.fill, List.drop_succ_cons, List.drop_zero, wpList]
  simp only [Act.put, List.setIfInBounds_toArray, List.set_cons_succ, List.set_cons_zero, v4]
  go_wp2_with fail
  go_ret
  exact ⟨rfl, HW.out⟩
set_option maxHeartbeats 4000000 in
set_option maxRecDepth 20000 in
theorem same_1 {w : World} {b1 b2 : Nat} {s t : St} {mo1 mo2 : Option Nat} {wv1 wv2 : Value} (h1 : Has w b1 (scells mo1 wv1 s) 63) (h2 : Has w b2 (scells mo2 wv2 t) 63) (_m1 : MapV w mo1 s.seen) (_m2 : MapV w mo2 t.seen) (_r1 : w.ownsRow 0 83 5 wv1 s.writes.length (s.writes.flatMap wcells)) (_r2 : w.ownsRow 0 83 5 wv2 t.writes.length (t.writes.flatMap wcells)) (e0 : decide (s.down = t.down) = true) (e1 : decide (s.refuse = t.refuse) = false) : Calls Try.prog 23 #[ptr b1, ptr b2] w fun e w' => e = .returned (.bool false) ∧ Below w.heap.size w w' := by
  obtain ⟨c0, c1, c2, c3, c4, c5, c6⟩ := scells_cell h1
  obtain ⟨d0, d1, d2, d3, d4, d5, d6⟩ := scells_cell h2
  have hl1 : b1 < w.drew.heap.size := h1.lt
  have hl2 : b2 < w.drew.heap.size := h2.lt
  clear h1 h2
  unfold ptr
  go_enter Try.func23, Try.ntmps23
  go_wp2_with fail
  refine Tl.wp_mix_lit (by kernel_rfl) 54 [14, 15, 16, 17, 18, 19, 20, 21, 22, 23, 24, 25, 26, 27, 28, 29, 30, 31, 32, 33, 34, 35, 36, 37, 38, 39, 40, 41, 42, 43, 44, 45, 46, 47, 48, 49, 50, 51, 52, 53, 54, 55, 56, 57, 58, 59, 60, 61, 62, 63, 64, 65, 66, 4] 67 rfl (by kernel_rfl) (BelW w.drew) (sF1 b1 b2 s t mo1 mo2 wv1 wv2 true false true true true) (Below.refl _ _)
    ⟨fun a' W' hC hF => ?_, fun a' W' hC hF => ?_, fun a' W' hC hF => ?_, fun a' W' hC hF => ?_, fun a' W' hC hF => ?_, fun a' W' hC hF => ?_, fun a' W' hC hF => ?_, fun a' W' hC hF => ?_, fun a' W' hC hF => ?_, fun a' W' hC hF => ?_, fun a' W' hC hF => ?_, fun a' W' hC hF => ?_, fun a' W' hC hF => ?_, fun a' W' hC hF => ?_, fun a' W' hC hF => ?_, fun a' W' hC hF => ?_, fun a' W' hC hF => ?_, fun a' W' hC hF => ?_, fun a' W' hC hF => ?_, fun a' W' hC hF => ?_, fun a' W' hC hF => ?_, fun a' W' hC hF => ?_, fun a' W' hC hF => ?_, fun a' W' hC hF => ?_, fun a' W' hC hF => ?_, fun a' W' hC hF => ?_, fun a' W' hC hF => ?_, fun a' W' hC hF => ?_, fun a' W' hC hF => ?_, fun a' W' hC hF => ?_, fun a' W' hC hF => ?_, fun a' W' hC hF => ?_, fun a' W' hC hF => ?_, fun a' W' hC hF => ?_, fun a' W' hC hF => ?_, fun a' W' hC hF => ?_, fun a' W' hC hF => ?_, fun a' W' hC hF => ?_, fun a' W' hC hF => ?_, fun a' W' hC hF => ?_, fun a' W' hC hF => ?_, fun a' W' hC hF => ?_, fun a' W' hC hF => ?_, fun a' W' hC hF => ?_, fun a' W' hC hF => ?_, fun a' W' hC hF => ?_, fun a' W' hC hF => ?_, fun a' W' hC hF => ?_, fun a' W' hC hF => ?_, fun a' W' hC hF => ?_, fun a' W' hC hF => ?_, fun a' W' hC hF => ?_, fun a' W' hC hF => ?_, fun a' W' hC hF => ?_, trivial⟩ ?_
  · exact Tl.sm_v 14 _ rfl (Tl.wanted_none rfl) hC rfl (rn_move rfl ((hF 0 (by decide +kernel)).2 (by decide)))
  · exact Tl.sm_v 15 _ rfl (Tl.wanted_none rfl) hC rfl (rn_nilCheck rfl ((hF 14 (by decide +kernel)).1 (by decide)))
  · exact Tl.sm_v 16 _ rfl (Tl.wanted_none rfl) hC rfl (rn_f63_2 rfl ((hF 15 (by decide +kernel)).1 (by decide)))
  · exact Tl.sm_v 17 _ rfl (Tl.wanted_none rfl) hC rfl (rn_load4 rfl ((hF 16 (by decide +kernel)).1 (by decide)) (hC.cell (p := ⟨b1, 2, none⟩) hl1 c2))
  · exact Tl.sm_v 18 _ rfl (Tl.wanted_none rfl) hC rfl (rn_move rfl ((hF 1 (by decide +kernel)).2 (by decide)))
  · exact Tl.sm_v 19 _ rfl (Tl.wanted_none rfl) hC rfl (rn_nilCheck rfl ((hF 18 (by decide +kernel)).1 (by decide)))
  · exact Tl.sm_v 20 _ rfl (Tl.wanted_none rfl) hC rfl (rn_f63_2 rfl ((hF 19 (by decide +kernel)).1 (by decide)))
  · exact Tl.sm_v 21 _ rfl (Tl.wanted_none rfl) hC rfl (rn_load4 rfl ((hF 20 (by decide +kernel)).1 (by decide)) (hC.cell (p := ⟨b2, 2, none⟩) hl2 d2))
  · exact Tl.sm_v 22 _ rfl (Tl.wanted_none rfl) hC rfl (rn_eql4 rfl ((hF 17 (by decide +kernel)).1 (by decide)) ((hF 21 (by decide +kernel)).1 (by decide)) e0)
  · exact Tl.sm_v 23 _ rfl (Tl.wanted_none rfl) hC rfl (rn_move rfl ((hF 22 (by decide +kernel)).1 (by decide)))
  · exact Tl.sm_v 24 _ rfl (Tl.wanted_is rfl rfl ((hF 23 (by decide +kernel)).1 (by decide))) hC rfl (rn_move rfl ((hF 0 (by decide +kernel)).2 (by decide)))
  · exact Tl.sm_v 25 _ rfl (Tl.wanted_is rfl rfl ((hF 23 (by decide +kernel)).1 (by decide))) hC rfl (rn_nilCheck rfl ((hF 24 (by decide +kernel)).1 (by decide)))
  · exact Tl.sm_v 26 _ rfl (Tl.wanted_is rfl rfl ((hF 23 (by decide +kernel)).1 (by decide))) hC rfl (rn_f63_3 rfl ((hF 25 (by decide +kernel)).1 (by decide)))
  · exact Tl.sm_v 27 _ rfl (Tl.wanted_is rfl rfl ((hF 23 (by decide +kernel)).1 (by decide))) hC rfl (rn_load61 rfl ((hF 26 (by decide +kernel)).1 (by decide)) (hC.cell (p := ⟨b1, 3, none⟩) hl1 c3) (hC.cell (p := ⟨b1, 4, none⟩) hl1 c4))
  · exact Tl.sm_v 28 _ rfl (Tl.wanted_is rfl rfl ((hF 23 (by decide +kernel)).1 (by decide))) hC rfl (rn_move rfl ((hF 1 (by decide +kernel)).2 (by decide)))
  · exact Tl.sm_v 29 _ rfl (Tl.wanted_is rfl rfl ((hF 23 (by decide +kernel)).1 (by decide))) hC rfl (rn_nilCheck rfl ((hF 28 (by decide +kernel)).1 (by decide)))
  · exact Tl.sm_v 30 _ rfl (Tl.wanted_is rfl rfl ((hF 23 (by decide +kernel)).1 (by decide))) hC rfl (rn_f63_3 rfl ((hF 29 (by decide +kernel)).1 (by decide)))
  · exact Tl.sm_v 31 _ rfl (Tl.wanted_is rfl rfl ((hF 23 (by decide +kernel)).1 (by decide))) hC rfl (rn_load61 rfl ((hF 30 (by decide +kernel)).1 (by decide)) (hC.cell (p := ⟨b2, 3, none⟩) hl2 d3) (hC.cell (p := ⟨b2, 4, none⟩) hl2 d4))
  · exact Tl.sm_v 32 _ rfl (Tl.wanted_is rfl rfl ((hF 23 (by decide +kernel)).1 (by decide))) hC rfl (rn_eql61 rfl ((hF 27 (by decide +kernel)).1 (by decide)) ((hF 31 (by decide +kernel)).1 (by decide)) e1)
  · exact Tl.sm_v 33 _ rfl (Tl.wanted_none rfl) hC rfl (rn_pickT rfl ((hF 23 (by decide +kernel)).1 (by decide)) ((hF 32 (by decide +kernel)).1 (by decide)))
  · exact Tl.sm_v 34 _ rfl (Tl.wanted_none rfl) hC rfl (rn_move rfl ((hF 33 (by decide +kernel)).1 (by decide)))
  · exact Tl.sm_skip (Tl.wanted_not rfl rfl ((hF 34 (by decide +kernel)).1 (by decide))) (fun d hd => by cases hd; trivial)
  · exact Tl.sm_skip (Tl.wanted_not rfl rfl ((hF 34 (by decide +kernel)).1 (by decide))) (fun d hd => by cases hd; trivial)
  · exact Tl.sm_skip (Tl.wanted_not rfl rfl ((hF 34 (by decide +kernel)).1 (by decide))) (fun d hd => by cases hd; trivial)
  · exact Tl.sm_skip (Tl.wanted_not rfl rfl ((hF 34 (by decide +kernel)).1 (by decide))) (fun d hd => by cases hd; trivial)
  · exact Tl.sm_skip (Tl.wanted_not rfl rfl ((hF 34 (by decide +kernel)).1 (by decide))) (fun d hd => by cases hd; trivial)
  · exact Tl.sm_skip (Tl.wanted_not rfl rfl ((hF 34 (by decide +kernel)).1 (by decide))) (fun d hd => by cases hd; trivial)
  · exact Tl.sm_skip (Tl.wanted_not rfl rfl ((hF 34 (by decide +kernel)).1 (by decide))) (fun d hd => by cases hd; trivial)
  · exact Tl.sm_skip (Tl.wanted_not rfl rfl ((hF 34 (by decide +kernel)).1 (by decide))) (fun d hd => by cases hd; trivial)
  · exact Tl.sm_skip (Tl.wanted_not rfl rfl ((hF 34 (by decide +kernel)).1 (by decide))) (fun d hd => by cases hd; trivial)
  · exact Tl.sm_v 44 _ rfl (Tl.wanted_none rfl) hC rfl (rn_pickF rfl ((hF 34 (by decide +kernel)).1 (by decide)) rfl)
  · exact Tl.sm_v 45 _ rfl (Tl.wanted_none rfl) hC rfl (rn_move rfl ((hF 44 (by decide +kernel)).1 (by decide)))
  · exact Tl.sm_skip (Tl.wanted_not rfl rfl ((hF 45 (by decide +kernel)).1 (by decide))) (fun d hd => by cases hd; trivial)
  · exact Tl.sm_skip (Tl.wanted_not rfl rfl ((hF 45 (by decide +kernel)).1 (by decide))) (fun d hd => by cases hd; trivial)
  · exact Tl.sm_skip (Tl.wanted_not rfl rfl ((hF 45 (by decide +kernel)).1 (by decide))) (fun d hd => by cases hd; trivial)
  · exact Tl.sm_skip (Tl.wanted_not rfl rfl ((hF 45 (by decide +kernel)).1 (by decide))) (fun d hd => by cases hd; trivial)
  · exact Tl.sm_skip (Tl.wanted_not rfl rfl ((hF 45 (by decide +kernel)).1 (by decide))) (fun d hd => by cases hd; trivial)
  · exact Tl.sm_skip (Tl.wanted_not rfl rfl ((hF 45 (by decide +kernel)).1 (by decide))) (fun d hd => by cases hd; trivial)
  · exact Tl.sm_skip (Tl.wanted_not rfl rfl ((hF 45 (by decide +kernel)).1 (by decide))) (fun d hd => by cases hd; trivial)
  · exact Tl.sm_skip (Tl.wanted_not rfl rfl ((hF 45 (by decide +kernel)).1 (by decide))) (fun d hd => by cases hd; trivial)
  · exact Tl.sm_skip (Tl.wanted_not rfl rfl ((hF 45 (by decide +kernel)).1 (by decide))) (fun d hd => by cases hd; trivial)
  · exact Tl.sm_v 55 _ rfl (Tl.wanted_none rfl) hC rfl (rn_pickF rfl ((hF 45 (by decide +kernel)).1 (by decide)) rfl)
  · exact Tl.sm_v 56 _ rfl (Tl.wanted_none rfl) hC rfl (rn_move rfl ((hF 55 (by decide +kernel)).1 (by decide)))
  · exact Tl.sm_skip (Tl.wanted_not rfl rfl ((hF 56 (by decide +kernel)).1 (by decide))) (fun d hd => by cases hd; trivial)
  · exact Tl.sm_skip (Tl.wanted_not rfl rfl ((hF 56 (by decide +kernel)).1 (by decide))) (fun d hd => by cases hd; trivial)
  · exact Tl.sm_skip (Tl.wanted_not rfl rfl ((hF 56 (by decide +kernel)).1 (by decide))) (fun d hd => by cases hd; trivial)
  · exact Tl.sm_skip (Tl.wanted_not rfl rfl ((hF 56 (by decide +kernel)).1 (by decide))) (fun d hd => by cases hd; trivial)
  · exact Tl.sm_skip (Tl.wanted_not rfl rfl ((hF 56 (by decide +kernel)).1 (by decide))) (fun d hd => by cases hd; trivial)
  · exact Tl.sm_skip (Tl.wanted_not rfl rfl ((hF 56 (by decide +kernel)).1 (by decide))) (fun d hd => by cases hd; trivial)
  · exact Tl.sm_skip (Tl.wanted_not rfl rfl ((hF 56 (by decide +kernel)).1 (by decide))) (fun d hd => by cases hd; trivial)
  · exact Tl.sm_skip (Tl.wanted_not rfl rfl ((hF 56 (by decide +kernel)).1 (by decide))) (fun d hd => by cases hd; trivial)
  · exact Tl.sm_skip (Tl.wanted_not rfl rfl ((hF 56 (by decide +kernel)).1 (by decide))) (fun d hd => by cases hd; trivial)
  · exact Tl.sm_v 66 _ rfl (Tl.wanted_none rfl) hC rfl (rn_pickF rfl ((hF 56 (by decide +kernel)).1 (by decide)) rfl)
  · exact Tl.sm_v 4 _ rfl (Tl.wanted_none rfl) hC rfl (rn_assign rfl ((hF 66 (by decide +kernel)).1 (by decide)))
  intro v wB hw hv
  have v4 : v 4 = .bool false := hv 4 (by decide)
  have HW := hid (show Below w.heap.size w wB from (Below.refl w.heap.size w).drew.trans hw)
  clear hv hw
  simp only [Tl.fill, List.drop_succ_cons, List.drop_zero, wpList]
  simp only [Act.put, List.setIfInBounds_toArray, List.set_cons_succ, List.set_cons_zero, v4]
  go_wp2_with fail
  go_ret
  exact ⟨rfl, HW.out⟩
set_option maxHeartbeats 4000000 in
set_option maxRecDepth 20000 in
theorem same_2 {w : World} {b1 b2 : Nat} {s t : St} {mo1 mo2 : Option Nat} {wv1 wv2 : Value} (h1 : Has w b1 (scells mo1 wv1 s) 63) (h2 : Has w b2 (scells mo2 wv2 t) 63) (_m1 : MapV w mo1 s.seen) (_m2 : MapV w mo2 t.seen) (_r1 : w.ownsRow 0 83 5 wv1 s.writes.length (s.writes.flatMap wcells)) (_r2 : w.ownsRow 0 83 5 wv2 t.writes.length (t.writes.flatMap wcells)) (e0 : decide (s.down = t.down) = true) (e1 : decide (s.refuse = t.refuse) = true) (e2 : decide (s.room = t.room) = false) : Calls Try.prog 23 #[ptr b1, ptr b2] w fun e w' => e = .returned (.bool false) ∧ Below w.heap.size w w' := by
  obtain ⟨c0, c1, c2, c3, c4, c5, c6⟩ := scells_cell h1
  obtain ⟨d0, d1, d2, d3, d4, d5, d6⟩ := scells_cell h2
  have hl1 : b1 < w.drew.heap.size := h1.lt
  have hl2 : b2 < w.drew.heap.size := h2.lt
  clear h1 h2
  unfold ptr
  go_enter Try.func23, Try.ntmps23
  go_wp2_with fail
  refine Tl.wp_mix_lit (by kernel_rfl) 54 [14, 15, 16, 17, 18, 19, 20, 21, 22, 23, 24, 25, 26, 27, 28, 29, 30, 31, 32, 33, 34, 35, 36, 37, 38, 39, 40, 41, 42, 43, 44, 45, 46, 47, 48, 49, 50, 51, 52, 53, 54, 55, 56, 57, 58, 59, 60, 61, 62, 63, 64, 65, 66, 4] 67 rfl (by kernel_rfl) (BelW w.drew) (sF2 b1 b2 s t mo1 mo2 wv1 wv2 true true false true true) (Below.refl _ _)
    ⟨fun a' W' hC hF => ?_, fun a' W' hC hF => ?_, fun a' W' hC hF => ?_, fun a' W' hC hF => ?_, fun a' W' hC hF => ?_, fun a' W' hC hF => ?_, fun a' W' hC hF => ?_, fun a' W' hC hF => ?_, fun a' W' hC hF => ?_, fun a' W' hC hF => ?_, fun a' W' hC hF => ?_, fun a' W' hC hF => ?_, fun a' W' hC hF => ?_, fun a' W' hC hF => ?_, fun a' W' hC hF => ?_, fun a' W' hC hF => ?_, fun a' W' hC hF => ?_, fun a' W' hC hF => ?_, fun a' W' hC hF => ?_, fun a' W' hC hF => ?_, fun a' W' hC hF => ?_, fun a' W' hC hF => ?_, fun a' W' hC hF => ?_, fun a' W' hC hF => ?_, fun a' W' hC hF => ?_, fun a' W' hC hF => ?_, fun a' W' hC hF => ?_, fun a' W' hC hF => ?_, fun a' W' hC hF => ?_, fun a' W' hC hF => ?_, fun a' W' hC hF => ?_, fun a' W' hC hF => ?_, fun a' W' hC hF => ?_, fun a' W' hC hF => ?_, fun a' W' hC hF => ?_, fun a' W' hC hF => ?_, fun a' W' hC hF => ?_, fun a' W' hC hF => ?_, fun a' W' hC hF => ?_, fun a' W' hC hF => ?_, fun a' W' hC hF => ?_, fun a' W' hC hF => ?_, fun a' W' hC hF => ?_, fun a' W' hC hF => ?_, fun a' W' hC hF => ?_, fun a' W' hC hF => ?_, fun a' W' hC hF => ?_, fun a' W' hC hF => ?_, fun a' W' hC hF => ?_, fun a' W' hC hF => ?_, fun a' W' hC hF => ?_, fun a' W' hC hF => ?_, fun a' W' hC hF => ?_, fun a' W' hC hF => ?_, trivial⟩ ?_
  · exact Tl.sm_v 14 _ rfl (Tl.wanted_none rfl) hC rfl (rn_move rfl ((hF 0 (by decide +kernel)).2 (by decide)))
  · exact Tl.sm_v 15 _ rfl (Tl.wanted_none rfl) hC rfl (rn_nilCheck rfl ((hF 14 (by decide +kernel)).1 (by decide)))
  · exact Tl.sm_v 16 _ rfl (Tl.wanted_none rfl) hC rfl (rn_f63_2 rfl ((hF 15 (by decide +kernel)).1 (by decide)))
  · exact Tl.sm_v 17 _ rfl (Tl.wanted_none rfl) hC rfl (rn_load4 rfl ((hF 16 (by decide +kernel)).1 (by decide)) (hC.cell (p := ⟨b1, 2, none⟩) hl1 c2))
  · exact Tl.sm_v 18 _ rfl (Tl.wanted_none rfl) hC rfl (rn_move rfl ((hF 1 (by decide +kernel)).2 (by decide)))
  · exact Tl.sm_v 19 _ rfl (Tl.wanted_none rfl) hC rfl (rn_nilCheck rfl ((hF 18 (by decide +kernel)).1 (by decide)))
  · exact Tl.sm_v 20 _ rfl (Tl.wanted_none rfl) hC rfl (rn_f63_2 rfl ((hF 19 (by decide +kernel)).1 (by decide)))
  · exact Tl.sm_v 21 _ rfl (Tl.wanted_none rfl) hC rfl (rn_load4 rfl ((hF 20 (by decide +kernel)).1 (by decide)) (hC.cell (p := ⟨b2, 2, none⟩) hl2 d2))
  · exact Tl.sm_v 22 _ rfl (Tl.wanted_none rfl) hC rfl (rn_eql4 rfl ((hF 17 (by decide +kernel)).1 (by decide)) ((hF 21 (by decide +kernel)).1 (by decide)) e0)
  · exact Tl.sm_v 23 _ rfl (Tl.wanted_none rfl) hC rfl (rn_move rfl ((hF 22 (by decide +kernel)).1 (by decide)))
  · exact Tl.sm_v 24 _ rfl (Tl.wanted_is rfl rfl ((hF 23 (by decide +kernel)).1 (by decide))) hC rfl (rn_move rfl ((hF 0 (by decide +kernel)).2 (by decide)))
  · exact Tl.sm_v 25 _ rfl (Tl.wanted_is rfl rfl ((hF 23 (by decide +kernel)).1 (by decide))) hC rfl (rn_nilCheck rfl ((hF 24 (by decide +kernel)).1 (by decide)))
  · exact Tl.sm_v 26 _ rfl (Tl.wanted_is rfl rfl ((hF 23 (by decide +kernel)).1 (by decide))) hC rfl (rn_f63_3 rfl ((hF 25 (by decide +kernel)).1 (by decide)))
  · exact Tl.sm_v 27 _ rfl (Tl.wanted_is rfl rfl ((hF 23 (by decide +kernel)).1 (by decide))) hC rfl (rn_load61 rfl ((hF 26 (by decide +kernel)).1 (by decide)) (hC.cell (p := ⟨b1, 3, none⟩) hl1 c3) (hC.cell (p := ⟨b1, 4, none⟩) hl1 c4))
  · exact Tl.sm_v 28 _ rfl (Tl.wanted_is rfl rfl ((hF 23 (by decide +kernel)).1 (by decide))) hC rfl (rn_move rfl ((hF 1 (by decide +kernel)).2 (by decide)))
  · exact Tl.sm_v 29 _ rfl (Tl.wanted_is rfl rfl ((hF 23 (by decide +kernel)).1 (by decide))) hC rfl (rn_nilCheck rfl ((hF 28 (by decide +kernel)).1 (by decide)))
  · exact Tl.sm_v 30 _ rfl (Tl.wanted_is rfl rfl ((hF 23 (by decide +kernel)).1 (by decide))) hC rfl (rn_f63_3 rfl ((hF 29 (by decide +kernel)).1 (by decide)))
  · exact Tl.sm_v 31 _ rfl (Tl.wanted_is rfl rfl ((hF 23 (by decide +kernel)).1 (by decide))) hC rfl (rn_load61 rfl ((hF 30 (by decide +kernel)).1 (by decide)) (hC.cell (p := ⟨b2, 3, none⟩) hl2 d3) (hC.cell (p := ⟨b2, 4, none⟩) hl2 d4))
  · exact Tl.sm_v 32 _ rfl (Tl.wanted_is rfl rfl ((hF 23 (by decide +kernel)).1 (by decide))) hC rfl (rn_eql61 rfl ((hF 27 (by decide +kernel)).1 (by decide)) ((hF 31 (by decide +kernel)).1 (by decide)) e1)
  · exact Tl.sm_v 33 _ rfl (Tl.wanted_none rfl) hC rfl (rn_pickT rfl ((hF 23 (by decide +kernel)).1 (by decide)) ((hF 32 (by decide +kernel)).1 (by decide)))
  · exact Tl.sm_v 34 _ rfl (Tl.wanted_none rfl) hC rfl (rn_move rfl ((hF 33 (by decide +kernel)).1 (by decide)))
  · exact Tl.sm_v 35 _ rfl (Tl.wanted_is rfl rfl ((hF 34 (by decide +kernel)).1 (by decide))) hC rfl (rn_move rfl ((hF 0 (by decide +kernel)).2 (by decide)))
  · exact Tl.sm_v 36 _ rfl (Tl.wanted_is rfl rfl ((hF 34 (by decide +kernel)).1 (by decide))) hC rfl (rn_nilCheck rfl ((hF 35 (by decide +kernel)).1 (by decide)))
  · exact Tl.sm_v 37 _ rfl (Tl.wanted_is rfl rfl ((hF 34 (by decide +kernel)).1 (by decide))) hC rfl (rn_f63_4 rfl ((hF 36 (by decide +kernel)).1 (by decide)))
  · exact Tl.sm_v 38 _ rfl (Tl.wanted_is rfl rfl ((hF 34 (by decide +kernel)).1 (by decide))) hC rfl (rn_load61 rfl ((hF 37 (by decide +kernel)).1 (by decide)) (hC.cell (p := ⟨b1, 5, none⟩) hl1 c5) (hC.cell (p := ⟨b1, 6, none⟩) hl1 c6))
  · exact Tl.sm_v 39 _ rfl (Tl.wanted_is rfl rfl ((hF 34 (by decide +kernel)).1 (by decide))) hC rfl (rn_move rfl ((hF 1 (by decide +kernel)).2 (by decide)))
  · exact Tl.sm_v 40 _ rfl (Tl.wanted_is rfl rfl ((hF 34 (by decide +kernel)).1 (by decide))) hC rfl (rn_nilCheck rfl ((hF 39 (by decide +kernel)).1 (by decide)))
  · exact Tl.sm_v 41 _ rfl (Tl.wanted_is rfl rfl ((hF 34 (by decide +kernel)).1 (by decide))) hC rfl (rn_f63_4 rfl ((hF 40 (by decide +kernel)).1 (by decide)))
  · exact Tl.sm_v 42 _ rfl (Tl.wanted_is rfl rfl ((hF 34 (by decide +kernel)).1 (by decide))) hC rfl (rn_load61 rfl ((hF 41 (by decide +kernel)).1 (by decide)) (hC.cell (p := ⟨b2, 5, none⟩) hl2 d5) (hC.cell (p := ⟨b2, 6, none⟩) hl2 d6))
  · exact Tl.sm_v 43 _ rfl (Tl.wanted_is rfl rfl ((hF 34 (by decide +kernel)).1 (by decide))) hC rfl (rn_eql61 rfl ((hF 38 (by decide +kernel)).1 (by decide)) ((hF 42 (by decide +kernel)).1 (by decide)) e2)
  · exact Tl.sm_v 44 _ rfl (Tl.wanted_none rfl) hC rfl (rn_pickT rfl ((hF 34 (by decide +kernel)).1 (by decide)) ((hF 43 (by decide +kernel)).1 (by decide)))
  · exact Tl.sm_v 45 _ rfl (Tl.wanted_none rfl) hC rfl (rn_move rfl ((hF 44 (by decide +kernel)).1 (by decide)))
  · exact Tl.sm_skip (Tl.wanted_not rfl rfl ((hF 45 (by decide +kernel)).1 (by decide))) (fun d hd => by cases hd; trivial)
  · exact Tl.sm_skip (Tl.wanted_not rfl rfl ((hF 45 (by decide +kernel)).1 (by decide))) (fun d hd => by cases hd; trivial)
  · exact Tl.sm_skip (Tl.wanted_not rfl rfl ((hF 45 (by decide +kernel)).1 (by decide))) (fun d hd => by cases hd; trivial)
  · exact Tl.sm_skip (Tl.wanted_not rfl rfl ((hF 45 (by decide +kernel)).1 (by decide))) (fun d hd => by cases hd; trivial)
  · exact Tl.sm_skip (Tl.wanted_not rfl rfl ((hF 45 (by decide +kernel)).1 (by decide))) (fun d hd => by cases hd; trivial)
  · exact Tl.sm_skip (Tl.wanted_not rfl rfl ((hF 45 (by decide +kernel)).1 (by decide))) (fun d hd => by cases hd; trivial)
  · exact Tl.sm_skip (Tl.wanted_not rfl rfl ((hF 45 (by decide +kernel)).1 (by decide))) (fun d hd => by cases hd; trivial)
  · exact Tl.sm_skip (Tl.wanted_not rfl rfl ((hF 45 (by decide +kernel)).1 (by decide))) (fun d hd => by cases hd; trivial)
  · exact Tl.sm_skip (Tl.wanted_not rfl rfl ((hF 45 (by decide +kernel)).1 (by decide))) (fun d hd => by cases hd; trivial)
  · exact Tl.sm_v 55 _ rfl (Tl.wanted_none rfl) hC rfl (rn_pickF rfl ((hF 45 (by decide +kernel)).1 (by decide)) rfl)
  · exact Tl.sm_v 56 _ rfl (Tl.wanted_none rfl) hC rfl (rn_move rfl ((hF 55 (by decide +kernel)).1 (by decide)))
  · exact Tl.sm_skip (Tl.wanted_not rfl rfl ((hF 56 (by decide +kernel)).1 (by decide))) (fun d hd => by cases hd; trivial)
  · exact Tl.sm_skip (Tl.wanted_not rfl rfl ((hF 56 (by decide +kernel)).1 (by decide))) (fun d hd => by cases hd; trivial)
  · exact Tl.sm_skip (Tl.wanted_not rfl rfl ((hF 56 (by decide +kernel)).1 (by decide))) (fun d hd => by cases hd; trivial)
  · exact Tl.sm_skip (Tl.wanted_not rfl rfl ((hF 56 (by decide +kernel)).1 (by decide))) (fun d hd => by cases hd; trivial)
  · exact Tl.sm_skip (Tl.wanted_not rfl rfl ((hF 56 (by decide +kernel)).1 (by decide))) (fun d hd => by cases hd; trivial)
  · exact Tl.sm_skip (Tl.wanted_not rfl rfl ((hF 56 (by decide +kernel)).1 (by decide))) (fun d hd => by cases hd; trivial)
  · exact Tl.sm_skip (Tl.wanted_not rfl rfl ((hF 56 (by decide +kernel)).1 (by decide))) (fun d hd => by cases hd; trivial)
  · exact Tl.sm_skip (Tl.wanted_not rfl rfl ((hF 56 (by decide +kernel)).1 (by decide))) (fun d hd => by cases hd; trivial)
  · exact Tl.sm_skip (Tl.wanted_not rfl rfl ((hF 56 (by decide +kernel)).1 (by decide))) (fun d hd => by cases hd; trivial)
  · exact Tl.sm_v 66 _ rfl (Tl.wanted_none rfl) hC rfl (rn_pickF rfl ((hF 56 (by decide +kernel)).1 (by decide)) rfl)
  · exact Tl.sm_v 4 _ rfl (Tl.wanted_none rfl) hC rfl (rn_assign rfl ((hF 66 (by decide +kernel)).1 (by decide)))
  intro v wB hw hv
  have v4 : v 4 = .bool false := hv 4 (by decide)
  have HW := hid (show Below w.heap.size w wB from (Below.refl w.heap.size w).drew.trans hw)
  clear hv hw
  simp only [Tl.fill, List.drop_succ_cons, List.drop_zero, wpList]
  simp only [Act.put, List.setIfInBounds_toArray, List.set_cons_succ, List.set_cons_zero, v4]
  go_wp2_with fail
  go_ret
  exact ⟨rfl, HW.out⟩
set_option maxHeartbeats 4000000 in
set_option maxRecDepth 20000 in
theorem same_3 {w : World} {b1 b2 : Nat} {s t : St} {mo1 mo2 : Option Nat} {wv1 wv2 : Value} (h1 : Has w b1 (scells mo1 wv1 s) 63) (h2 : Has w b2 (scells mo2 wv2 t) 63) (m1 : MapV w mo1 s.seen) (m2 : MapV w mo2 t.seen) (_r1 : w.ownsRow 0 83 5 wv1 s.writes.length (s.writes.flatMap wcells)) (_r2 : w.ownsRow 0 83 5 wv2 t.writes.length (t.writes.flatMap wcells)) (e0 : decide (s.down = t.down) = true) (e1 : decide (s.refuse = t.refuse) = true) (e2 : decide (s.room = t.room) = true) (e3 : decide (s.seen = t.seen) = false) : Calls Try.prog 23 #[ptr b1, ptr b2] w fun e w' => e = .returned (.bool false) ∧ Below w.heap.size w w' := by
  obtain ⟨c0, c1, c2, c3, c4, c5, c6⟩ := scells_cell h1
  obtain ⟨d0, d1, d2, d3, d4, d5, d6⟩ := scells_cell h2
  have hl1 : b1 < w.drew.heap.size := h1.lt
  have hl2 : b2 < w.drew.heap.size := h2.lt
  clear h1 h2
  unfold ptr
  go_enter Try.func23, Try.ntmps23
  go_wp2_with fail
  refine Tl.wp_mix_lit (by kernel_rfl) 54 [14, 15, 16, 17, 18, 19, 20, 21, 22, 23, 24, 25, 26, 27, 28, 29, 30, 31, 32, 33, 34, 35, 36, 37, 38, 39, 40, 41, 42, 43, 44, 45, 46, 47, 48, 49, 50, 51, 52, 53, 54, 55, 56, 57, 58, 59, 60, 61, 62, 63, 64, 65, 66, 4] 67 rfl (by kernel_rfl) (BelW w.drew) (sF3 b1 b2 s t mo1 mo2 wv1 wv2 true true true false true) (Below.refl _ _)
    ⟨fun a' W' hC hF => ?_, fun a' W' hC hF => ?_, fun a' W' hC hF => ?_, fun a' W' hC hF => ?_, fun a' W' hC hF => ?_, fun a' W' hC hF => ?_, fun a' W' hC hF => ?_, fun a' W' hC hF => ?_, fun a' W' hC hF => ?_, fun a' W' hC hF => ?_, fun a' W' hC hF => ?_, fun a' W' hC hF => ?_, fun a' W' hC hF => ?_, fun a' W' hC hF => ?_, fun a' W' hC hF => ?_, fun a' W' hC hF => ?_, fun a' W' hC hF => ?_, fun a' W' hC hF => ?_, fun a' W' hC hF => ?_, fun a' W' hC hF => ?_, fun a' W' hC hF => ?_, fun a' W' hC hF => ?_, fun a' W' hC hF => ?_, fun a' W' hC hF => ?_, fun a' W' hC hF => ?_, fun a' W' hC hF => ?_, fun a' W' hC hF => ?_, fun a' W' hC hF => ?_, fun a' W' hC hF => ?_, fun a' W' hC hF => ?_, fun a' W' hC hF => ?_, fun a' W' hC hF => ?_, fun a' W' hC hF => ?_, fun a' W' hC hF => ?_, fun a' W' hC hF => ?_, fun a' W' hC hF => ?_, fun a' W' hC hF => ?_, fun a' W' hC hF => ?_, fun a' W' hC hF => ?_, fun a' W' hC hF => ?_, fun a' W' hC hF => ?_, fun a' W' hC hF => ?_, fun a' W' hC hF => ?_, fun a' W' hC hF => ?_, fun a' W' hC hF => ?_, fun a' W' hC hF => ?_, fun a' W' hC hF => ?_, fun a' W' hC hF => ?_, fun a' W' hC hF => ?_, fun a' W' hC hF => ?_, fun a' W' hC hF => ?_, fun a' W' hC hF => ?_, fun a' W' hC hF => ?_, fun a' W' hC hF => ?_, trivial⟩ ?_
  · exact Tl.sm_v 14 _ rfl (Tl.wanted_none rfl) hC rfl (rn_move rfl ((hF 0 (by decide +kernel)).2 (by decide)))
  · exact Tl.sm_v 15 _ rfl (Tl.wanted_none rfl) hC rfl (rn_nilCheck rfl ((hF 14 (by decide +kernel)).1 (by decide)))
  · exact Tl.sm_v 16 _ rfl (Tl.wanted_none rfl) hC rfl (rn_f63_2 rfl ((hF 15 (by decide +kernel)).1 (by decide)))
  · exact Tl.sm_v 17 _ rfl (Tl.wanted_none rfl) hC rfl (rn_load4 rfl ((hF 16 (by decide +kernel)).1 (by decide)) (hC.cell (p := ⟨b1, 2, none⟩) hl1 c2))
  · exact Tl.sm_v 18 _ rfl (Tl.wanted_none rfl) hC rfl (rn_move rfl ((hF 1 (by decide +kernel)).2 (by decide)))
  · exact Tl.sm_v 19 _ rfl (Tl.wanted_none rfl) hC rfl (rn_nilCheck rfl ((hF 18 (by decide +kernel)).1 (by decide)))
  · exact Tl.sm_v 20 _ rfl (Tl.wanted_none rfl) hC rfl (rn_f63_2 rfl ((hF 19 (by decide +kernel)).1 (by decide)))
  · exact Tl.sm_v 21 _ rfl (Tl.wanted_none rfl) hC rfl (rn_load4 rfl ((hF 20 (by decide +kernel)).1 (by decide)) (hC.cell (p := ⟨b2, 2, none⟩) hl2 d2))
  · exact Tl.sm_v 22 _ rfl (Tl.wanted_none rfl) hC rfl (rn_eql4 rfl ((hF 17 (by decide +kernel)).1 (by decide)) ((hF 21 (by decide +kernel)).1 (by decide)) e0)
  · exact Tl.sm_v 23 _ rfl (Tl.wanted_none rfl) hC rfl (rn_move rfl ((hF 22 (by decide +kernel)).1 (by decide)))
  · exact Tl.sm_v 24 _ rfl (Tl.wanted_is rfl rfl ((hF 23 (by decide +kernel)).1 (by decide))) hC rfl (rn_move rfl ((hF 0 (by decide +kernel)).2 (by decide)))
  · exact Tl.sm_v 25 _ rfl (Tl.wanted_is rfl rfl ((hF 23 (by decide +kernel)).1 (by decide))) hC rfl (rn_nilCheck rfl ((hF 24 (by decide +kernel)).1 (by decide)))
  · exact Tl.sm_v 26 _ rfl (Tl.wanted_is rfl rfl ((hF 23 (by decide +kernel)).1 (by decide))) hC rfl (rn_f63_3 rfl ((hF 25 (by decide +kernel)).1 (by decide)))
  · exact Tl.sm_v 27 _ rfl (Tl.wanted_is rfl rfl ((hF 23 (by decide +kernel)).1 (by decide))) hC rfl (rn_load61 rfl ((hF 26 (by decide +kernel)).1 (by decide)) (hC.cell (p := ⟨b1, 3, none⟩) hl1 c3) (hC.cell (p := ⟨b1, 4, none⟩) hl1 c4))
  · exact Tl.sm_v 28 _ rfl (Tl.wanted_is rfl rfl ((hF 23 (by decide +kernel)).1 (by decide))) hC rfl (rn_move rfl ((hF 1 (by decide +kernel)).2 (by decide)))
  · exact Tl.sm_v 29 _ rfl (Tl.wanted_is rfl rfl ((hF 23 (by decide +kernel)).1 (by decide))) hC rfl (rn_nilCheck rfl ((hF 28 (by decide +kernel)).1 (by decide)))
  · exact Tl.sm_v 30 _ rfl (Tl.wanted_is rfl rfl ((hF 23 (by decide +kernel)).1 (by decide))) hC rfl (rn_f63_3 rfl ((hF 29 (by decide +kernel)).1 (by decide)))
  · exact Tl.sm_v 31 _ rfl (Tl.wanted_is rfl rfl ((hF 23 (by decide +kernel)).1 (by decide))) hC rfl (rn_load61 rfl ((hF 30 (by decide +kernel)).1 (by decide)) (hC.cell (p := ⟨b2, 3, none⟩) hl2 d3) (hC.cell (p := ⟨b2, 4, none⟩) hl2 d4))
  · exact Tl.sm_v 32 _ rfl (Tl.wanted_is rfl rfl ((hF 23 (by decide +kernel)).1 (by decide))) hC rfl (rn_eql61 rfl ((hF 27 (by decide +kernel)).1 (by decide)) ((hF 31 (by decide +kernel)).1 (by decide)) e1)
  · exact Tl.sm_v 33 _ rfl (Tl.wanted_none rfl) hC rfl (rn_pickT rfl ((hF 23 (by decide +kernel)).1 (by decide)) ((hF 32 (by decide +kernel)).1 (by decide)))
  · exact Tl.sm_v 34 _ rfl (Tl.wanted_none rfl) hC rfl (rn_move rfl ((hF 33 (by decide +kernel)).1 (by decide)))
  · exact Tl.sm_v 35 _ rfl (Tl.wanted_is rfl rfl ((hF 34 (by decide +kernel)).1 (by decide))) hC rfl (rn_move rfl ((hF 0 (by decide +kernel)).2 (by decide)))
  · exact Tl.sm_v 36 _ rfl (Tl.wanted_is rfl rfl ((hF 34 (by decide +kernel)).1 (by decide))) hC rfl (rn_nilCheck rfl ((hF 35 (by decide +kernel)).1 (by decide)))
  · exact Tl.sm_v 37 _ rfl (Tl.wanted_is rfl rfl ((hF 34 (by decide +kernel)).1 (by decide))) hC rfl (rn_f63_4 rfl ((hF 36 (by decide +kernel)).1 (by decide)))
  · exact Tl.sm_v 38 _ rfl (Tl.wanted_is rfl rfl ((hF 34 (by decide +kernel)).1 (by decide))) hC rfl (rn_load61 rfl ((hF 37 (by decide +kernel)).1 (by decide)) (hC.cell (p := ⟨b1, 5, none⟩) hl1 c5) (hC.cell (p := ⟨b1, 6, none⟩) hl1 c6))
  · exact Tl.sm_v 39 _ rfl (Tl.wanted_is rfl rfl ((hF 34 (by decide +kernel)).1 (by decide))) hC rfl (rn_move rfl ((hF 1 (by decide +kernel)).2 (by decide)))
  · exact Tl.sm_v 40 _ rfl (Tl.wanted_is rfl rfl ((hF 34 (by decide +kernel)).1 (by decide))) hC rfl (rn_nilCheck rfl ((hF 39 (by decide +kernel)).1 (by decide)))
  · exact Tl.sm_v 41 _ rfl (Tl.wanted_is rfl rfl ((hF 34 (by decide +kernel)).1 (by decide))) hC rfl (rn_f63_4 rfl ((hF 40 (by decide +kernel)).1 (by decide)))
  · exact Tl.sm_v 42 _ rfl (Tl.wanted_is rfl rfl ((hF 34 (by decide +kernel)).1 (by decide))) hC rfl (rn_load61 rfl ((hF 41 (by decide +kernel)).1 (by decide)) (hC.cell (p := ⟨b2, 5, none⟩) hl2 d5) (hC.cell (p := ⟨b2, 6, none⟩) hl2 d6))
  · exact Tl.sm_v 43 _ rfl (Tl.wanted_is rfl rfl ((hF 34 (by decide +kernel)).1 (by decide))) hC rfl (rn_eql61 rfl ((hF 38 (by decide +kernel)).1 (by decide)) ((hF 42 (by decide +kernel)).1 (by decide)) e2)
  · exact Tl.sm_v 44 _ rfl (Tl.wanted_none rfl) hC rfl (rn_pickT rfl ((hF 34 (by decide +kernel)).1 (by decide)) ((hF 43 (by decide +kernel)).1 (by decide)))
  · exact Tl.sm_v 45 _ rfl (Tl.wanted_none rfl) hC rfl (rn_move rfl ((hF 44 (by decide +kernel)).1 (by decide)))
  · exact Tl.sm_v 46 _ rfl (Tl.wanted_is rfl rfl ((hF 45 (by decide +kernel)).1 (by decide))) hC rfl (rn_move rfl ((hF 0 (by decide +kernel)).2 (by decide)))
  · exact Tl.sm_v 47 _ rfl (Tl.wanted_is rfl rfl ((hF 45 (by decide +kernel)).1 (by decide))) hC rfl (rn_nilCheck rfl ((hF 46 (by decide +kernel)).1 (by decide)))
  · exact Tl.sm_v 48 _ rfl (Tl.wanted_is rfl rfl ((hF 45 (by decide +kernel)).1 (by decide))) hC rfl (rn_f63_0 rfl ((hF 47 (by decide +kernel)).1 (by decide)))
  · exact Tl.sm_v 49 _ rfl (Tl.wanted_is rfl rfl ((hF 45 (by decide +kernel)).1 (by decide))) hC rfl (rn_load58 rfl ((hF 48 (by decide +kernel)).1 (by decide)) (hC.cell (p := ⟨b1, 0, none⟩) hl1 c0))
  · exact Tl.sm_v 50 _ rfl (Tl.wanted_is rfl rfl ((hF 45 (by decide +kernel)).1 (by decide))) hC rfl (rn_move rfl ((hF 1 (by decide +kernel)).2 (by decide)))
  · exact Tl.sm_v 51 _ rfl (Tl.wanted_is rfl rfl ((hF 45 (by decide +kernel)).1 (by decide))) hC rfl (rn_nilCheck rfl ((hF 50 (by decide +kernel)).1 (by decide)))
  · exact Tl.sm_v 52 _ rfl (Tl.wanted_is rfl rfl ((hF 45 (by decide +kernel)).1 (by decide))) hC rfl (rn_f63_0 rfl ((hF 51 (by decide +kernel)).1 (by decide)))
  · exact Tl.sm_v 53 _ rfl (Tl.wanted_is rfl rfl ((hF 45 (by decide +kernel)).1 (by decide))) hC rfl (rn_load58 rfl ((hF 52 (by decide +kernel)).1 (by decide)) (hC.cell (p := ⟨b2, 0, none⟩) hl2 d0))
  · refine Tl.sm_call 41 #[.map mo1, .map mo2] (Tl.wanted_is rfl rfl ((hF 45 (by decide +kernel)).1 (by decide))) (rn_call2 rfl rfl ((hF 49 (by decide +kernel)).1 (by decide)) ((hF 53 (by decide +kernel)).1 (by decide)) (enter41 _)) ((mapsEq_any (m1.block fun k _ h => hC.block k h) (m2.block fun k _ h => hC.block k h)).mono ?_)
    rintro e w'' ⟨rfl, b1⟩
    exact ⟨_, rfl, Below.trans hC (b1.mono hC.size), fun _ _ _ h => h, fun d hd => by cases hd; exact congrArg Value.bool e3⟩
  · exact Tl.sm_v 55 _ rfl (Tl.wanted_none rfl) hC rfl (rn_pickT rfl ((hF 45 (by decide +kernel)).1 (by decide)) ((hF 54 (by decide +kernel)).1 (by decide)))
  · exact Tl.sm_v 56 _ rfl (Tl.wanted_none rfl) hC rfl (rn_move rfl ((hF 55 (by decide +kernel)).1 (by decide)))
  · exact Tl.sm_skip (Tl.wanted_not rfl rfl ((hF 56 (by decide +kernel)).1 (by decide))) (fun d hd => by cases hd; trivial)
  · exact Tl.sm_skip (Tl.wanted_not rfl rfl ((hF 56 (by decide +kernel)).1 (by decide))) (fun d hd => by cases hd; trivial)
  · exact Tl.sm_skip (Tl.wanted_not rfl rfl ((hF 56 (by decide +kernel)).1 (by decide))) (fun d hd => by cases hd; trivial)
  · exact Tl.sm_skip (Tl.wanted_not rfl rfl ((hF 56 (by decide +kernel)).1 (by decide))) (fun d hd => by cases hd; trivial)
  · exact Tl.sm_skip (Tl.wanted_not rfl rfl ((hF 56 (by decide +kernel)).1 (by decide))) (fun d hd => by cases hd; trivial)
  · exact Tl.sm_skip (Tl.wanted_not rfl rfl ((hF 56 (by decide +kernel)).1 (by decide))) (fun d hd => by cases hd; trivial)
  · exact Tl.sm_skip (Tl.wanted_not rfl rfl ((hF 56 (by decide +kernel)).1 (by decide))) (fun d hd => by cases hd; trivial)
  · exact Tl.sm_skip (Tl.wanted_not rfl rfl ((hF 56 (by decide +kernel)).1 (by decide))) (fun d hd => by cases hd; trivial)
  · exact Tl.sm_skip (Tl.wanted_not rfl rfl ((hF 56 (by decide +kernel)).1 (by decide))) (fun d hd => by cases hd; trivial)
  · exact Tl.sm_v 66 _ rfl (Tl.wanted_none rfl) hC rfl (rn_pickF rfl ((hF 56 (by decide +kernel)).1 (by decide)) rfl)
  · exact Tl.sm_v 4 _ rfl (Tl.wanted_none rfl) hC rfl (rn_assign rfl ((hF 66 (by decide +kernel)).1 (by decide)))
  intro v wB hw hv
  have v4 : v 4 = .bool false := hv 4 (by decide)
  have HW := hid (show Below w.heap.size w wB from (Below.refl w.heap.size w).drew.trans hw)
  clear hv hw
  simp only [Tl.fill, List.drop_succ_cons, List.drop_zero, wpList]
  simp only [Act.put, List.setIfInBounds_toArray, List.set_cons_succ, List.set_cons_zero, v4]
  go_wp2_with fail
  go_ret
  exact ⟨rfl, HW.out⟩
set_option maxHeartbeats 4000000 in
set_option maxRecDepth 20000 in
theorem same_4 {w : World} {b1 b2 : Nat} {s t : St} {mo1 mo2 : Option Nat} {wv1 wv2 : Value} (h1 : Has w b1 (scells mo1 wv1 s) 63) (h2 : Has w b2 (scells mo2 wv2 t) 63) (m1 : MapV w mo1 s.seen) (m2 : MapV w mo2 t.seen) (r1 : w.ownsRow 0 83 5 wv1 s.writes.length (s.writes.flatMap wcells)) (r2 : w.ownsRow 0 83 5 wv2 t.writes.length (t.writes.flatMap wcells)) (e0 : decide (s.down = t.down) = true) (e1 : decide (s.refuse = t.refuse) = true) (e2 : decide (s.room = t.room) = true) (e3 : decide (s.seen = t.seen) = true) (x4 : Bool) (e4 : decide (s.writes = t.writes) = x4) : Calls Try.prog 23 #[ptr b1, ptr b2] w fun e w' => e = .returned (.bool x4) ∧ Below w.heap.size w w' := by
  obtain ⟨c0, c1, c2, c3, c4, c5, c6⟩ := scells_cell h1
  obtain ⟨d0, d1, d2, d3, d4, d5, d6⟩ := scells_cell h2
  have hl1 : b1 < w.drew.heap.size := h1.lt
  have hl2 : b2 < w.drew.heap.size := h2.lt
  clear h1 h2
  unfold ptr
  go_enter Try.func23, Try.ntmps23
  go_wp2_with fail
  refine Tl.wp_mix_lit (by kernel_rfl) 54 [14, 15, 16, 17, 18, 19, 20, 21, 22, 23, 24, 25, 26, 27, 28, 29, 30, 31, 32, 33, 34, 35, 36, 37, 38, 39, 40, 41, 42, 43, 44, 45, 46, 47, 48, 49, 50, 51, 52, 53, 54, 55, 56, 57, 58, 59, 60, 61, 62, 63, 64, 65, 66, 4] 67 rfl (by kernel_rfl) (BelW w.drew) (sF4 b1 b2 s t mo1 mo2 wv1 wv2 true true true true x4) (Below.refl _ _)
    ⟨fun a' W' hC hF => ?_, fun a' W' hC hF => ?_, fun a' W' hC hF => ?_, fun a' W' hC hF => ?_, fun a' W' hC hF => ?_, fun a' W' hC hF => ?_, fun a' W' hC hF => ?_, fun a' W' hC hF => ?_, fun a' W' hC hF => ?_, fun a' W' hC hF => ?_, fun a' W' hC hF => ?_, fun a' W' hC hF => ?_, fun a' W' hC hF => ?_, fun a' W' hC hF => ?_, fun a' W' hC hF => ?_, fun a' W' hC hF => ?_, fun a' W' hC hF => ?_, fun a' W' hC hF => ?_, fun a' W' hC hF => ?_, fun a' W' hC hF => ?_, fun a' W' hC hF => ?_, fun a' W' hC hF => ?_, fun a' W' hC hF => ?_, fun a' W' hC hF => ?_, fun a' W' hC hF => ?_, fun a' W' hC hF => ?_, fun a' W' hC hF => ?_, fun a' W' hC hF => ?_, fun a' W' hC hF => ?_, fun a' W' hC hF => ?_, fun a' W' hC hF => ?_, fun a' W' hC hF => ?_, fun a' W' hC hF => ?_, fun a' W' hC hF => ?_, fun a' W' hC hF => ?_, fun a' W' hC hF => ?_, fun a' W' hC hF => ?_, fun a' W' hC hF => ?_, fun a' W' hC hF => ?_, fun a' W' hC hF => ?_, fun a' W' hC hF => ?_, fun a' W' hC hF => ?_, fun a' W' hC hF => ?_, fun a' W' hC hF => ?_, fun a' W' hC hF => ?_, fun a' W' hC hF => ?_, fun a' W' hC hF => ?_, fun a' W' hC hF => ?_, fun a' W' hC hF => ?_, fun a' W' hC hF => ?_, fun a' W' hC hF => ?_, fun a' W' hC hF => ?_, fun a' W' hC hF => ?_, fun a' W' hC hF => ?_, trivial⟩ ?_
  · exact Tl.sm_v 14 _ rfl (Tl.wanted_none rfl) hC rfl (rn_move rfl ((hF 0 (by decide +kernel)).2 (by decide)))
  · exact Tl.sm_v 15 _ rfl (Tl.wanted_none rfl) hC rfl (rn_nilCheck rfl ((hF 14 (by decide +kernel)).1 (by decide)))
  · exact Tl.sm_v 16 _ rfl (Tl.wanted_none rfl) hC rfl (rn_f63_2 rfl ((hF 15 (by decide +kernel)).1 (by decide)))
  · exact Tl.sm_v 17 _ rfl (Tl.wanted_none rfl) hC rfl (rn_load4 rfl ((hF 16 (by decide +kernel)).1 (by decide)) (hC.cell (p := ⟨b1, 2, none⟩) hl1 c2))
  · exact Tl.sm_v 18 _ rfl (Tl.wanted_none rfl) hC rfl (rn_move rfl ((hF 1 (by decide +kernel)).2 (by decide)))
  · exact Tl.sm_v 19 _ rfl (Tl.wanted_none rfl) hC rfl (rn_nilCheck rfl ((hF 18 (by decide +kernel)).1 (by decide)))
  · exact Tl.sm_v 20 _ rfl (Tl.wanted_none rfl) hC rfl (rn_f63_2 rfl ((hF 19 (by decide +kernel)).1 (by decide)))
  · exact Tl.sm_v 21 _ rfl (Tl.wanted_none rfl) hC rfl (rn_load4 rfl ((hF 20 (by decide +kernel)).1 (by decide)) (hC.cell (p := ⟨b2, 2, none⟩) hl2 d2))
  · exact Tl.sm_v 22 _ rfl (Tl.wanted_none rfl) hC rfl (rn_eql4 rfl ((hF 17 (by decide +kernel)).1 (by decide)) ((hF 21 (by decide +kernel)).1 (by decide)) e0)
  · exact Tl.sm_v 23 _ rfl (Tl.wanted_none rfl) hC rfl (rn_move rfl ((hF 22 (by decide +kernel)).1 (by decide)))
  · exact Tl.sm_v 24 _ rfl (Tl.wanted_is rfl rfl ((hF 23 (by decide +kernel)).1 (by decide))) hC rfl (rn_move rfl ((hF 0 (by decide +kernel)).2 (by decide)))
  · exact Tl.sm_v 25 _ rfl (Tl.wanted_is rfl rfl ((hF 23 (by decide +kernel)).1 (by decide))) hC rfl (rn_nilCheck rfl ((hF 24 (by decide +kernel)).1 (by decide)))
  · exact Tl.sm_v 26 _ rfl (Tl.wanted_is rfl rfl ((hF 23 (by decide +kernel)).1 (by decide))) hC rfl (rn_f63_3 rfl ((hF 25 (by decide +kernel)).1 (by decide)))
  · exact Tl.sm_v 27 _ rfl (Tl.wanted_is rfl rfl ((hF 23 (by decide +kernel)).1 (by decide))) hC rfl (rn_load61 rfl ((hF 26 (by decide +kernel)).1 (by decide)) (hC.cell (p := ⟨b1, 3, none⟩) hl1 c3) (hC.cell (p := ⟨b1, 4, none⟩) hl1 c4))
  · exact Tl.sm_v 28 _ rfl (Tl.wanted_is rfl rfl ((hF 23 (by decide +kernel)).1 (by decide))) hC rfl (rn_move rfl ((hF 1 (by decide +kernel)).2 (by decide)))
  · exact Tl.sm_v 29 _ rfl (Tl.wanted_is rfl rfl ((hF 23 (by decide +kernel)).1 (by decide))) hC rfl (rn_nilCheck rfl ((hF 28 (by decide +kernel)).1 (by decide)))
  · exact Tl.sm_v 30 _ rfl (Tl.wanted_is rfl rfl ((hF 23 (by decide +kernel)).1 (by decide))) hC rfl (rn_f63_3 rfl ((hF 29 (by decide +kernel)).1 (by decide)))
  · exact Tl.sm_v 31 _ rfl (Tl.wanted_is rfl rfl ((hF 23 (by decide +kernel)).1 (by decide))) hC rfl (rn_load61 rfl ((hF 30 (by decide +kernel)).1 (by decide)) (hC.cell (p := ⟨b2, 3, none⟩) hl2 d3) (hC.cell (p := ⟨b2, 4, none⟩) hl2 d4))
  · exact Tl.sm_v 32 _ rfl (Tl.wanted_is rfl rfl ((hF 23 (by decide +kernel)).1 (by decide))) hC rfl (rn_eql61 rfl ((hF 27 (by decide +kernel)).1 (by decide)) ((hF 31 (by decide +kernel)).1 (by decide)) e1)
  · exact Tl.sm_v 33 _ rfl (Tl.wanted_none rfl) hC rfl (rn_pickT rfl ((hF 23 (by decide +kernel)).1 (by decide)) ((hF 32 (by decide +kernel)).1 (by decide)))
  · exact Tl.sm_v 34 _ rfl (Tl.wanted_none rfl) hC rfl (rn_move rfl ((hF 33 (by decide +kernel)).1 (by decide)))
  · exact Tl.sm_v 35 _ rfl (Tl.wanted_is rfl rfl ((hF 34 (by decide +kernel)).1 (by decide))) hC rfl (rn_move rfl ((hF 0 (by decide +kernel)).2 (by decide)))
  · exact Tl.sm_v 36 _ rfl (Tl.wanted_is rfl rfl ((hF 34 (by decide +kernel)).1 (by decide))) hC rfl (rn_nilCheck rfl ((hF 35 (by decide +kernel)).1 (by decide)))
  · exact Tl.sm_v 37 _ rfl (Tl.wanted_is rfl rfl ((hF 34 (by decide +kernel)).1 (by decide))) hC rfl (rn_f63_4 rfl ((hF 36 (by decide +kernel)).1 (by decide)))
  · exact Tl.sm_v 38 _ rfl (Tl.wanted_is rfl rfl ((hF 34 (by decide +kernel)).1 (by decide))) hC rfl (rn_load61 rfl ((hF 37 (by decide +kernel)).1 (by decide)) (hC.cell (p := ⟨b1, 5, none⟩) hl1 c5) (hC.cell (p := ⟨b1, 6, none⟩) hl1 c6))
  · exact Tl.sm_v 39 _ rfl (Tl.wanted_is rfl rfl ((hF 34 (by decide +kernel)).1 (by decide))) hC rfl (rn_move rfl ((hF 1 (by decide +kernel)).2 (by decide)))
  · exact Tl.sm_v 40 _ rfl (Tl.wanted_is rfl rfl ((hF 34 (by decide +kernel)).1 (by decide))) hC rfl (rn_nilCheck rfl ((hF 39 (by decide +kernel)).1 (by decide)))
  · exact Tl.sm_v 41 _ rfl (Tl.wanted_is rfl rfl ((hF 34 (by decide +kernel)).1 (by decide))) hC rfl (rn_f63_4 rfl ((hF 40 (by decide +kernel)).1 (by decide)))
  · exact Tl.sm_v 42 _ rfl (Tl.wanted_is rfl rfl ((hF 34 (by decide +kernel)).1 (by decide))) hC rfl (rn_load61 rfl ((hF 41 (by decide +kernel)).1 (by decide)) (hC.cell (p := ⟨b2, 5, none⟩) hl2 d5) (hC.cell (p := ⟨b2, 6, none⟩) hl2 d6))
  · exact Tl.sm_v 43 _ rfl (Tl.wanted_is rfl rfl ((hF 34 (by decide +kernel)).1 (by decide))) hC rfl (rn_eql61 rfl ((hF 38 (by decide +kernel)).1 (by decide)) ((hF 42 (by decide +kernel)).1 (by decide)) e2)
  · exact Tl.sm_v 44 _ rfl (Tl.wanted_none rfl) hC rfl (rn_pickT rfl ((hF 34 (by decide +kernel)).1 (by decide)) ((hF 43 (by decide +kernel)).1 (by decide)))
  · exact Tl.sm_v 45 _ rfl (Tl.wanted_none rfl) hC rfl (rn_move rfl ((hF 44 (by decide +kernel)).1 (by decide)))
  · exact Tl.sm_v 46 _ rfl (Tl.wanted_is rfl rfl ((hF 45 (by decide +kernel)).1 (by decide))) hC rfl (rn_move rfl ((hF 0 (by decide +kernel)).2 (by decide)))
  · exact Tl.sm_v 47 _ rfl (Tl.wanted_is rfl rfl ((hF 45 (by decide +kernel)).1 (by decide))) hC rfl (rn_nilCheck rfl ((hF 46 (by decide +kernel)).1 (by decide)))
  · exact Tl.sm_v 48 _ rfl (Tl.wanted_is rfl rfl ((hF 45 (by decide +kernel)).1 (by decide))) hC rfl (rn_f63_0 rfl ((hF 47 (by decide +kernel)).1 (by decide)))
  · exact Tl.sm_v 49 _ rfl (Tl.wanted_is rfl rfl ((hF 45 (by decide +kernel)).1 (by decide))) hC rfl (rn_load58 rfl ((hF 48 (by decide +kernel)).1 (by decide)) (hC.cell (p := ⟨b1, 0, none⟩) hl1 c0))
  · exact Tl.sm_v 50 _ rfl (Tl.wanted_is rfl rfl ((hF 45 (by decide +kernel)).1 (by decide))) hC rfl (rn_move rfl ((hF 1 (by decide +kernel)).2 (by decide)))
  · exact Tl.sm_v 51 _ rfl (Tl.wanted_is rfl rfl ((hF 45 (by decide +kernel)).1 (by decide))) hC rfl (rn_nilCheck rfl ((hF 50 (by decide +kernel)).1 (by decide)))
  · exact Tl.sm_v 52 _ rfl (Tl.wanted_is rfl rfl ((hF 45 (by decide +kernel)).1 (by decide))) hC rfl (rn_f63_0 rfl ((hF 51 (by decide +kernel)).1 (by decide)))
  · exact Tl.sm_v 53 _ rfl (Tl.wanted_is rfl rfl ((hF 45 (by decide +kernel)).1 (by decide))) hC rfl (rn_load58 rfl ((hF 52 (by decide +kernel)).1 (by decide)) (hC.cell (p := ⟨b2, 0, none⟩) hl2 d0))
  · refine Tl.sm_call 41 #[.map mo1, .map mo2] (Tl.wanted_is rfl rfl ((hF 45 (by decide +kernel)).1 (by decide))) (rn_call2 rfl rfl ((hF 49 (by decide +kernel)).1 (by decide)) ((hF 53 (by decide +kernel)).1 (by decide)) (enter41 _)) ((mapsEq_any (m1.block fun k _ h => hC.block k h) (m2.block fun k _ h => hC.block k h)).mono ?_)
    rintro e w'' ⟨rfl, b1⟩
    exact ⟨_, rfl, Below.trans hC (b1.mono hC.size), fun _ _ _ h => h, fun d hd => by cases hd; exact congrArg Value.bool e3⟩
  · exact Tl.sm_v 55 _ rfl (Tl.wanted_none rfl) hC rfl (rn_pickT rfl ((hF 45 (by decide +kernel)).1 (by decide)) ((hF 54 (by decide +kernel)).1 (by decide)))
  · exact Tl.sm_v 56 _ rfl (Tl.wanted_none rfl) hC rfl (rn_move rfl ((hF 55 (by decide +kernel)).1 (by decide)))
  · exact Tl.sm_v 57 _ rfl (Tl.wanted_is rfl rfl ((hF 56 (by decide +kernel)).1 (by decide))) hC rfl (rn_move rfl ((hF 0 (by decide +kernel)).2 (by decide)))
  · exact Tl.sm_v 58 _ rfl (Tl.wanted_is rfl rfl ((hF 56 (by decide +kernel)).1 (by decide))) hC rfl (rn_nilCheck rfl ((hF 57 (by decide +kernel)).1 (by decide)))
  · exact Tl.sm_v 59 _ rfl (Tl.wanted_is rfl rfl ((hF 56 (by decide +kernel)).1 (by decide))) hC rfl (rn_f63_1 rfl ((hF 58 (by decide +kernel)).1 (by decide)))
  · exact Tl.sm_v 60 _ rfl (Tl.wanted_is rfl rfl ((hF 56 (by decide +kernel)).1 (by decide))) hC rfl (rn_load59 rfl ((hF 59 (by decide +kernel)).1 (by decide)) (hC.cell (p := ⟨b1, 1, none⟩) hl1 c1))
  · exact Tl.sm_v 61 _ rfl (Tl.wanted_is rfl rfl ((hF 56 (by decide +kernel)).1 (by decide))) hC rfl (rn_move rfl ((hF 1 (by decide +kernel)).2 (by decide)))
  · exact Tl.sm_v 62 _ rfl (Tl.wanted_is rfl rfl ((hF 56 (by decide +kernel)).1 (by decide))) hC rfl (rn_nilCheck rfl ((hF 61 (by decide +kernel)).1 (by decide)))
  · exact Tl.sm_v 63 _ rfl (Tl.wanted_is rfl rfl ((hF 56 (by decide +kernel)).1 (by decide))) hC rfl (rn_f63_1 rfl ((hF 62 (by decide +kernel)).1 (by decide)))
  · exact Tl.sm_v 64 _ rfl (Tl.wanted_is rfl rfl ((hF 56 (by decide +kernel)).1 (by decide))) hC rfl (rn_load59 rfl ((hF 63 (by decide +kernel)).1 (by decide)) (hC.cell (p := ⟨b2, 1, none⟩) hl2 d1))
  · refine Tl.sm_call 42 #[wv1, wv2] (Tl.wanted_is rfl rfl ((hF 56 (by decide +kernel)).1 (by decide))) (rn_call2 rfl rfl ((hF 60 (by decide +kernel)).1 (by decide)) ((hF 64 (by decide +kernel)).1 (by decide)) (enter42 _)) ((slicesEq_any (row_below (w := w.drew) r1 hC) (row_below (w := w.drew) r2 hC)).mono ?_)
    rintro e w'' ⟨rfl, b1⟩
    exact ⟨_, rfl, Below.trans hC (b1.mono hC.size), fun _ _ _ h => h, fun d hd => by cases hd; exact congrArg Value.bool e4⟩
  · exact Tl.sm_v 66 _ rfl (Tl.wanted_none rfl) hC rfl (rn_pickT rfl ((hF 56 (by decide +kernel)).1 (by decide)) ((hF 65 (by decide +kernel)).1 (by decide)))
  · exact Tl.sm_v 4 _ rfl (Tl.wanted_none rfl) hC rfl (rn_assign rfl ((hF 66 (by decide +kernel)).1 (by decide)))
  intro v wB hw hv
  have v4 : v 4 = .bool x4 := hv 4 (by decide)
  have HW := hid (show Below w.heap.size w wB from (Below.refl w.heap.size w).drew.trans hw)
  clear hv hw
  simp only [Tl.fill, List.drop_succ_cons, List.drop_zero, wpList]
  simp only [Act.put, List.setIfInBounds_toArray, List.set_cons_succ, List.set_cons_zero, v4]
  go_wp2_with fail
  go_ret
  exact ⟨rfl, HW.out⟩
theorem same_any {w : World} {S1 S2 : Nat → Prop} {b1 b2 : Nat} {s t : St} (h1 : IsSt w S1 b1 s) (h2 : IsSt w S2 b2 t) : Calls Try.prog 23 #[ptr b1, ptr b2] w fun e w' => e = .returned (.bool (sameS s t)) ∧ Below w.heap.size w w' := by
  obtain ⟨mo1, wv1, p1, p2, p3, _⟩ := h1
  obtain ⟨mo2, wv2, q1, q2, q3, _⟩ := h2
  unfold sameS
  cases e0 : decide (s.down = t.down) with
  | false => exact same_0 p1 q1 p2 q2 p3 q3 e0
  | true =>
    cases e1 : decide (s.refuse = t.refuse) with
    | false => exact same_1 p1 q1 p2 q2 p3 q3 e0 e1
    | true =>
      cases e2 : decide (s.room = t.room) with
      | false => exact same_2 p1 q1 p2 q2 p3 q3 e0 e1 e2
      | true =>
        cases e3 : decide (s.seen = t.seen) with
        | false => exact same_3 p1 q1 p2 q2 p3 q3 e0 e1 e2 e3
        | true =>
          have := same_4 p1 q1 p2 q2 p3 q3 e0 e1 e2 e3 _ rfl
          simpa using this
theorem eqp0 (w : World) : (binOp .eql 23 (.pointer none) (.pointer none)).run Try.prog w = .ok (.bool true) w := by kernel_rfl
theorem eqp1 (a : Addr) (w : World) : (binOp .eql 23 (.pointer none) (.pointer (some a))).run Try.prog w = .ok (.bool false) w := by kernel_rfl
set_option maxRecDepth 20000 in
theorem same_nil (w : World) : Calls Try.prog 23 #[.pointer none, .pointer none] w fun e w' => e = .returned (.bool true) ∧ w' = w := by
  have hq := eqp0
  go_enter Try.func23, Try.ntmps23
  go_wp2_with fail
  go_ret
  exact ⟨rfl, rfl⟩
set_option maxRecDepth 20000 in
theorem same_nil1 (b : Nat) (w : World) : Calls Try.prog 23 #[.pointer none, ptr b] w fun e w' => e = .returned (.bool false) ∧ w' = w := by
  have hq := eqp1
  unfold ptr
  go_enter Try.func23, Try.ntmps23
  go_wp2_with fail
  go_ret
  exact ⟨rfl, rfl⟩
end Go.Proofs.Ytpeeelnkelnlkaa
