/- The document's Same. -/
import Derived.Test.YtpeeelnkelnlkaaROps
namespace Go.Proofs.Ytpeeelnkelnlkaa
open Go.RowKit Go.Maps
theorem less1_inj (a b : Option Nat) : decide (less1 a = less1 b) = decide (a = b) := by
  rw [decide_eq_decide]
  cases a <;> cases b <;> simp [less1] <;> omega
theorem in28 (d : Nat) (w : World) (a b c e : ByteArray) : (Op.equalIn (d + 2) 28 (.agg #[.string a, .string b]) (.agg #[.string c, .string e])).run Try.prog w = .ok (decide (((a, b) : Ob) = (c, e))) w := by
  by_cases h1 : a = c
  · subst h1
    by_cases h2 : b = e
    · subst h2; simp [go_sem]
    · simp [go_sem, tl_eq, h2]
  · simp [go_sem, tl_eq, h1]
theorem neq90 (w : World) (p q : Rw) : (binOp .neq 90 (.agg (rcells p).toArray) (.agg (rcells q).toArray)).run Try.prog w = .ok (.bool (!decide (p = q))) w := by
  have e : (p = q) = (((p.name, p.data) : Ob) = (q.name, q.data) ∧ p.del = q.del) := by
    cases p; cases q; simp [and_assoc]
  rw [show (decide (p = q)) = decide (((p.name, p.data) : Ob) = (q.name, q.data) ∧ p.del = q.del) from decide_eq_decide.2 (by rw [e])]
  have hS : Try.prog.underlying 90 = some (.struct (Try.prog.fieldsOf 90)) := by kernel_rfl
  have i1 := in28 9997 w p.name p.data q.name q.data
  have s1 : (Op.equalIn 9999 4 (.bool p.del) (.bool q.del)).run Try.prog w = .ok (decide (p.del = q.del)) w := by
    cases p.del <;> cases q.del <;> kernel_rfl
  have p0 : ∀ r : Rw, (part 28 (rcells r).toArray 0).run Try.prog w = .ok (.agg #[.string r.name, .string r.data]) w := fun r => by unfold rcells; kernel_rfl
  have p1 : ∀ r : Rw, (part 4 (rcells r).toArray 2).run Try.prog w = .ok (.bool r.del) w := fun r => by unfold rcells; kernel_rfl
  rw [run_neq_struct, show (10000 : Nat) = 9999 + 1 from rfl, run_equalIn_agg w 9999 90 _ _ hS (by kernel_rfl)]
  simp only [Program.fieldsOf, Try.underlying90]
  rw [Bool.decide_and]
  generalize decide (((p.name, p.data) : Ob) = (q.name, q.data)) = x0 at *
  generalize decide (p.del = q.del) = x1 at *
  cases x0
  · simp [Op.eqFields, p0, i1, Result.andThen]
  · cases x1 <;> simp [Op.eqFields, p0, p1, s1, i1, Result.andThen]
section
variable {ev : Operand → Value} {o : Oper} {w : World} {x y : Operand}
theorem rn_neq90 {p q : Rw} (ho : o.op = .binOp .neq 90 x y 90) (hx : ev x = .agg (rcells p).toArray) (hy : ev y = .agg (rcells q).toArray) : (execOp ev o).run Try.prog w = .ok (.value (.bool (!decide (p = q)))) w := by
  have h1 := neq90 w p q
  have h2 := fun a b => gd90 .neq w a b (rcells p).toArray (rcells q).toArray
  simp [execOp, ho, hx, hy, h1, h2, Result.andThen]
end
def swF (b1 b2 : Nat) (v1 v2 : Value) (g1 g2 k : Nat) (p q : Rw) (i : Nat) (v : Value) (_ : World) : Prop := match i with
  | 71 => v = .pointer (some ⟨b1, 0, none⟩) | 72 => v = .pointer (some ⟨b1, 0, none⟩) | 73 => v = .pointer (some ⟨b1, 1, none⟩)
  | 74 => v = v1 | 75 => v = .int .i64 (k : Int) | 76 => v = .pointer (some ⟨g1, k * 3, none⟩) | 77 => v = .agg (rcells p).toArray
  | 78 => v = .pointer (some ⟨b2, 0, none⟩) | 79 => v = .pointer (some ⟨b2, 0, none⟩) | 80 => v = .pointer (some ⟨b2, 1, none⟩)
  | 81 => v = v2 | 82 => v = .int .i64 (k : Int) | 83 => v = .pointer (some ⟨g2, k * 3, none⟩) | 84 => v = .agg (rcells q).toArray
  | 85 => v = .bool (!decide (p = q))
  | _ => True
def smF0 (b1 b2 : Nat) (r t : Rf) (_gv1 _gv2 _wv1 _wv2 : Value) (_x : Bool) (i : Nat) (v : Value) (_ : World) : Prop := match i with
  | 6 => v = .pointer (some ⟨b1, 0, none⟩)
  | 7 => v = .pointer (some ⟨b1, 0, none⟩)
  | 8 => v = .pointer (some ⟨b1, 2, none⟩)
  | 9 => v = .bool r.down
  | 10 => v = .pointer (some ⟨b2, 0, none⟩)
  | 11 => v = .pointer (some ⟨b2, 0, none⟩)
  | 12 => v = .pointer (some ⟨b2, 2, none⟩)
  | 13 => v = .bool t.down
  | 14 => v = .bool true
  | 15 => v = .bool true
  | 25 => v = .bool true
  | 26 => v = .bool true
  | 36 => v = .bool true
  | 37 => v = .bool true
  | 48 => v = .bool true
  | 49 => v = .bool true
  | 61 => v = .bool true
  | _ => True
def smF1 (b1 b2 : Nat) (r t : Rf) (_gv1 _gv2 _wv1 _wv2 : Value) (_x : Bool) (i : Nat) (v : Value) (_ : World) : Prop := match i with
  | 6 => v = .pointer (some ⟨b1, 0, none⟩)
  | 7 => v = .pointer (some ⟨b1, 0, none⟩)
  | 8 => v = .pointer (some ⟨b1, 2, none⟩)
  | 9 => v = .bool r.down
  | 10 => v = .pointer (some ⟨b2, 0, none⟩)
  | 11 => v = .pointer (some ⟨b2, 0, none⟩)
  | 12 => v = .pointer (some ⟨b2, 2, none⟩)
  | 13 => v = .bool t.down
  | 14 => v = .bool false
  | 15 => v = .bool false
  | 16 => v = .pointer (some ⟨b1, 0, none⟩)
  | 17 => v = .pointer (some ⟨b1, 0, none⟩)
  | 18 => v = .pointer (some ⟨b1, 3, none⟩)
  | 19 => v = .int .i64 (less1 r.ahead)
  | 20 => v = .pointer (some ⟨b2, 0, none⟩)
  | 21 => v = .pointer (some ⟨b2, 0, none⟩)
  | 22 => v = .pointer (some ⟨b2, 3, none⟩)
  | 23 => v = .int .i64 (less1 t.ahead)
  | 24 => v = .bool true
  | 25 => v = .bool true
  | 26 => v = .bool true
  | 36 => v = .bool true
  | 37 => v = .bool true
  | 48 => v = .bool true
  | 49 => v = .bool true
  | 61 => v = .bool true
  | _ => True
def smF2 (b1 b2 : Nat) (r t : Rf) (_gv1 _gv2 _wv1 _wv2 : Value) (_x : Bool) (i : Nat) (v : Value) (_ : World) : Prop := match i with
  | 6 => v = .pointer (some ⟨b1, 0, none⟩)
  | 7 => v = .pointer (some ⟨b1, 0, none⟩)
  | 8 => v = .pointer (some ⟨b1, 2, none⟩)
  | 9 => v = .bool r.down
  | 10 => v = .pointer (some ⟨b2, 0, none⟩)
  | 11 => v = .pointer (some ⟨b2, 0, none⟩)
  | 12 => v = .pointer (some ⟨b2, 2, none⟩)
  | 13 => v = .bool t.down
  | 14 => v = .bool false
  | 15 => v = .bool false
  | 16 => v = .pointer (some ⟨b1, 0, none⟩)
  | 17 => v = .pointer (some ⟨b1, 0, none⟩)
  | 18 => v = .pointer (some ⟨b1, 3, none⟩)
  | 19 => v = .int .i64 (less1 r.ahead)
  | 20 => v = .pointer (some ⟨b2, 0, none⟩)
  | 21 => v = .pointer (some ⟨b2, 0, none⟩)
  | 22 => v = .pointer (some ⟨b2, 3, none⟩)
  | 23 => v = .int .i64 (less1 t.ahead)
  | 24 => v = .bool false
  | 25 => v = .bool false
  | 26 => v = .bool false
  | 27 => v = .pointer (some ⟨b1, 0, none⟩)
  | 28 => v = .pointer (some ⟨b1, 0, none⟩)
  | 29 => v = .pointer (some ⟨b1, 4, none⟩)
  | 30 => v = .int .i64 (less1 r.room)
  | 31 => v = .pointer (some ⟨b2, 0, none⟩)
  | 32 => v = .pointer (some ⟨b2, 0, none⟩)
  | 33 => v = .pointer (some ⟨b2, 4, none⟩)
  | 34 => v = .int .i64 (less1 t.room)
  | 35 => v = .bool true
  | 36 => v = .bool true
  | 37 => v = .bool true
  | 48 => v = .bool true
  | 49 => v = .bool true
  | 61 => v = .bool true
  | _ => True
def smF3 (b1 b2 : Nat) (r t : Rf) (gv1 gv2 _wv1 _wv2 : Value) (_x : Bool) (i : Nat) (v : Value) (_ : World) : Prop := match i with
  | 6 => v = .pointer (some ⟨b1, 0, none⟩)
  | 7 => v = .pointer (some ⟨b1, 0, none⟩)
  | 8 => v = .pointer (some ⟨b1, 2, none⟩)
  | 9 => v = .bool r.down
  | 10 => v = .pointer (some ⟨b2, 0, none⟩)
  | 11 => v = .pointer (some ⟨b2, 0, none⟩)
  | 12 => v = .pointer (some ⟨b2, 2, none⟩)
  | 13 => v = .bool t.down
  | 14 => v = .bool false
  | 15 => v = .bool false
  | 16 => v = .pointer (some ⟨b1, 0, none⟩)
  | 17 => v = .pointer (some ⟨b1, 0, none⟩)
  | 18 => v = .pointer (some ⟨b1, 3, none⟩)
  | 19 => v = .int .i64 (less1 r.ahead)
  | 20 => v = .pointer (some ⟨b2, 0, none⟩)
  | 21 => v = .pointer (some ⟨b2, 0, none⟩)
  | 22 => v = .pointer (some ⟨b2, 3, none⟩)
  | 23 => v = .int .i64 (less1 t.ahead)
  | 24 => v = .bool false
  | 25 => v = .bool false
  | 26 => v = .bool false
  | 27 => v = .pointer (some ⟨b1, 0, none⟩)
  | 28 => v = .pointer (some ⟨b1, 0, none⟩)
  | 29 => v = .pointer (some ⟨b1, 4, none⟩)
  | 30 => v = .int .i64 (less1 r.room)
  | 31 => v = .pointer (some ⟨b2, 0, none⟩)
  | 32 => v = .pointer (some ⟨b2, 0, none⟩)
  | 33 => v = .pointer (some ⟨b2, 4, none⟩)
  | 34 => v = .int .i64 (less1 t.room)
  | 35 => v = .bool false
  | 36 => v = .bool false
  | 37 => v = .bool false
  | 38 => v = .pointer (some ⟨b1, 0, none⟩)
  | 39 => v = .pointer (some ⟨b1, 0, none⟩)
  | 40 => v = .pointer (some ⟨b1, 0, none⟩)
  | 41 => v = gv1
  | 42 => v = .pointer (some ⟨b2, 0, none⟩)
  | 43 => v = .pointer (some ⟨b2, 0, none⟩)
  | 44 => v = .pointer (some ⟨b2, 0, none⟩)
  | 45 => v = gv2
  | 46 => v = .bool false
  | 47 => v = .bool true
  | 48 => v = .bool true
  | 49 => v = .bool true
  | 61 => v = .bool true
  | _ => True
def smF4 (b1 b2 : Nat) (r t : Rf) (gv1 gv2 wv1 wv2 : Value) (x : Bool) (i : Nat) (v : Value) (_ : World) : Prop := match i with
  | 6 => v = .pointer (some ⟨b1, 0, none⟩)
  | 7 => v = .pointer (some ⟨b1, 0, none⟩)
  | 8 => v = .pointer (some ⟨b1, 2, none⟩)
  | 9 => v = .bool r.down
  | 10 => v = .pointer (some ⟨b2, 0, none⟩)
  | 11 => v = .pointer (some ⟨b2, 0, none⟩)
  | 12 => v = .pointer (some ⟨b2, 2, none⟩)
  | 13 => v = .bool t.down
  | 14 => v = .bool false
  | 15 => v = .bool false
  | 16 => v = .pointer (some ⟨b1, 0, none⟩)
  | 17 => v = .pointer (some ⟨b1, 0, none⟩)
  | 18 => v = .pointer (some ⟨b1, 3, none⟩)
  | 19 => v = .int .i64 (less1 r.ahead)
  | 20 => v = .pointer (some ⟨b2, 0, none⟩)
  | 21 => v = .pointer (some ⟨b2, 0, none⟩)
  | 22 => v = .pointer (some ⟨b2, 3, none⟩)
  | 23 => v = .int .i64 (less1 t.ahead)
  | 24 => v = .bool false
  | 25 => v = .bool false
  | 26 => v = .bool false
  | 27 => v = .pointer (some ⟨b1, 0, none⟩)
  | 28 => v = .pointer (some ⟨b1, 0, none⟩)
  | 29 => v = .pointer (some ⟨b1, 4, none⟩)
  | 30 => v = .int .i64 (less1 r.room)
  | 31 => v = .pointer (some ⟨b2, 0, none⟩)
  | 32 => v = .pointer (some ⟨b2, 0, none⟩)
  | 33 => v = .pointer (some ⟨b2, 4, none⟩)
  | 34 => v = .int .i64 (less1 t.room)
  | 35 => v = .bool false
  | 36 => v = .bool false
  | 37 => v = .bool false
  | 38 => v = .pointer (some ⟨b1, 0, none⟩)
  | 39 => v = .pointer (some ⟨b1, 0, none⟩)
  | 40 => v = .pointer (some ⟨b1, 0, none⟩)
  | 41 => v = gv1
  | 42 => v = .pointer (some ⟨b2, 0, none⟩)
  | 43 => v = .pointer (some ⟨b2, 0, none⟩)
  | 44 => v = .pointer (some ⟨b2, 0, none⟩)
  | 45 => v = gv2
  | 46 => v = .bool true
  | 47 => v = .bool false
  | 48 => v = .bool false
  | 49 => v = .bool false
  | 50 => v = .pointer (some ⟨b1, 0, none⟩)
  | 51 => v = .pointer (some ⟨b1, 0, none⟩)
  | 52 => v = .pointer (some ⟨b1, 1, none⟩)
  | 53 => v = wv1
  | 54 => v = .int .i64 (r.writes.length : Int)
  | 55 => v = .pointer (some ⟨b2, 0, none⟩)
  | 56 => v = .pointer (some ⟨b2, 0, none⟩)
  | 57 => v = .pointer (some ⟨b2, 1, none⟩)
  | 58 => v = wv2
  | 59 => v = .int .i64 (t.writes.length : Int)
  | 60 => v = .bool x
  | 61 => v = .bool x
  | _ => True
set_option maxHeartbeats 8000000 in
set_option maxRecDepth 20000 in
theorem refSame_any {w : World} {S T : Nat → Prop} {b1 b2 : Nat} {r t : Rf} (h1 : IsRf w S b1 r) (h2 : IsRf w T b2 t) (hN : r.writes.length ≤ 1000000) : Calls Try.prog 27 #[ptr b1, ptr b2] w fun e w' => e = .returned (.bool (sameR r t)) ∧ Below w.heap.size w w' := by
  have HI1 := hid h1
  have HI2 := hid h2
  have hl1 : b1 < w.heap.size := by obtain ⟨_, _, hh, _⟩ := h1; exact hh.lt
  have hl2 : b2 < w.heap.size := by obtain ⟨_, _, hh, _⟩ := h2; exact hh.lt
  obtain ⟨gv1, wv1, ⟨c0, c1, c2, c3, c4⟩, hg1, hw1, _⟩ := h1.cells
  obtain ⟨gv2, wv2, ⟨d0, d1, d2, d3, d4⟩, hg2, hw2, _⟩ := h2.cells
  have HSO : Hid (∀ W, BelW w W → Calls Try.prog 31 #[gv1, gv2] W fun e w' => e = .returned (.bool (decide (r.good = t.good))) ∧ Below W.heap.size W w') := hid fun W hW => sameObj_any (row_below hg1 hW) (row_below hg2 hW)
  have HW1 := hid hw1
  have HW2 := hid hw2
  clear h1 h2 hg1 hg2
  have HSM := hid (show sameR r t = (decide (r.down = t.down) && (decide (r.ahead = t.ahead) && (decide (r.room = t.room) && (decide (r.good = t.good) && decide (r.writes = t.writes))))) from rfl)
  unfold ptr at *
  have x : Bool := true
  by_cases hd : r.down = t.down
  · have q0 : decide (r.down = t.down) = !false := decide_eq_true hd
    by_cases ha : r.ahead = t.ahead
    · have q1 : decide (less1 r.ahead = less1 t.ahead) = !false := by rw [less1_inj]; exact decide_eq_true ha
      by_cases hm : r.room = t.room
      · have q2 : decide (less1 r.room = less1 t.room) = !false := by rw [less1_inj]; exact decide_eq_true hm
        by_cases hg : r.good = t.good
        · have q3 : decide (r.good = t.good) = true := decide_eq_true hg
          have HEG := hid (show (decide (r.down = t.down) && (decide (r.ahead = t.ahead) && (decide (r.room = t.room) && decide (r.good = t.good)))) = true from by rw [decide_eq_true hd, decide_eq_true ha, decide_eq_true hm, q3]; rfl)
          have HL1 : Hid (∀ W, BelW w W → b1 < W.heap.size) := hid fun W hW => Nat.lt_of_lt_of_le hl1 (Below.size hW)
          have HL2 : Hid (∀ W, BelW w W → b2 < W.heap.size) := hid fun W hW => Nat.lt_of_lt_of_le hl2 (Below.size hW)
          clear hd ha hm hg
          obtain ⟨a1, a1c, rfl⟩ := row_slice hw1
          obtain ⟨a2, a2c, rfl⟩ := row_slice hw2
          clear hw1 hw2
          by_cases hwl : r.writes.length = t.writes.length
          · obtain ⟨x, hx⟩ : ∃ x : Bool, x = false := ⟨_, rfl⟩
            have q4 : decide ((r.writes.length : Int) = (t.writes.length : Int)) = !x := by rw [hx, hwl]; simp
            go_enter Try.func27, Try.ntmps27
            go_wp2_with fail
            refine Tl.wp_mix_lit (by kernel_rfl) 56 [6, 7, 8, 9, 10, 11, 12, 13, 14, 15, 16, 17, 18, 19, 20, 21, 22, 23, 24, 25, 26, 27, 28, 29, 30, 31, 32, 33, 34, 35, 36, 37, 38, 39, 40, 41, 42, 43, 44, 45, 46, 47, 48, 49, 50, 51, 52, 53, 54, 55, 56, 57, 58, 59, 60, 61] 86 rfl (by kernel_rfl) (BelW w) (smF4 b1 b2 r t gv1 gv2 (.slice a1 r.writes.length a1c) (.slice a2 t.writes.length a2c) x) ((Below.refl _ _).drew)
              ⟨fun a' W' hC hF => ?_, fun a' W' hC hF => ?_, fun a' W' hC hF => ?_, fun a' W' hC hF => ?_, fun a' W' hC hF => ?_, fun a' W' hC hF => ?_, fun a' W' hC hF => ?_, fun a' W' hC hF => ?_, fun a' W' hC hF => ?_, fun a' W' hC hF => ?_, fun a' W' hC hF => ?_, fun a' W' hC hF => ?_, fun a' W' hC hF => ?_, fun a' W' hC hF => ?_, fun a' W' hC hF => ?_, fun a' W' hC hF => ?_, fun a' W' hC hF => ?_, fun a' W' hC hF => ?_, fun a' W' hC hF => ?_, fun a' W' hC hF => ?_, fun a' W' hC hF => ?_, fun a' W' hC hF => ?_, fun a' W' hC hF => ?_, fun a' W' hC hF => ?_, fun a' W' hC hF => ?_, fun a' W' hC hF => ?_, fun a' W' hC hF => ?_, fun a' W' hC hF => ?_, fun a' W' hC hF => ?_, fun a' W' hC hF => ?_, fun a' W' hC hF => ?_, fun a' W' hC hF => ?_, fun a' W' hC hF => ?_, fun a' W' hC hF => ?_, fun a' W' hC hF => ?_, fun a' W' hC hF => ?_, fun a' W' hC hF => ?_, fun a' W' hC hF => ?_, fun a' W' hC hF => ?_, fun a' W' hC hF => ?_, fun a' W' hC hF => ?_, fun a' W' hC hF => ?_, fun a' W' hC hF => ?_, fun a' W' hC hF => ?_, fun a' W' hC hF => ?_, fun a' W' hC hF => ?_, fun a' W' hC hF => ?_, fun a' W' hC hF => ?_, fun a' W' hC hF => ?_, fun a' W' hC hF => ?_, fun a' W' hC hF => ?_, fun a' W' hC hF => ?_, fun a' W' hC hF => ?_, fun a' W' hC hF => ?_, fun a' W' hC hF => ?_, fun a' W' hC hF => ?_, trivial⟩ ?_
            · exact Tl.sm_v 6 _ rfl (Tl.wanted_none rfl) hC rfl (rn_move rfl ((hF 0 (by decide +kernel)).2 (by decide)))
            · exact Tl.sm_v 7 _ rfl (Tl.wanted_none rfl) hC rfl (rn_nilCheck rfl ((hF 6 (by decide +kernel)).1 (by decide)))
            · exact Tl.sm_v 8 _ rfl (Tl.wanted_none rfl) hC rfl (rn_f79_2 rfl ((hF 7 (by decide +kernel)).1 (by decide)))
            · exact Tl.sm_v 9 _ rfl (Tl.wanted_none rfl) hC rfl (rn_load4 rfl ((hF 8 (by decide +kernel)).1 (by decide)) (BelW.cell hC (p := ⟨b1, 2, none⟩) hl1 c2))
            · exact Tl.sm_v 10 _ rfl (Tl.wanted_none rfl) hC rfl (rn_move rfl ((hF 1 (by decide +kernel)).2 (by decide)))
            · exact Tl.sm_v 11 _ rfl (Tl.wanted_none rfl) hC rfl (rn_nilCheck rfl ((hF 10 (by decide +kernel)).1 (by decide)))
            · exact Tl.sm_v 12 _ rfl (Tl.wanted_none rfl) hC rfl (rn_f79_2 rfl ((hF 11 (by decide +kernel)).1 (by decide)))
            · exact Tl.sm_v 13 _ rfl (Tl.wanted_none rfl) hC rfl (rn_load4 rfl ((hF 12 (by decide +kernel)).1 (by decide)) (BelW.cell hC (p := ⟨b2, 2, none⟩) hl2 d2))
            · exact Tl.sm_v 14 _ rfl (Tl.wanted_none rfl) hC rfl (rn_neq4 rfl ((hF 9 (by decide +kernel)).1 (by decide)) ((hF 13 (by decide +kernel)).1 (by decide)) q0)
            · exact Tl.sm_v 15 _ rfl (Tl.wanted_none rfl) hC rfl (rn_move rfl ((hF 14 (by decide +kernel)).1 (by decide)))
            · exact Tl.sm_v 16 _ rfl (Tl.wanted_is rfl rfl ((hF 15 (by decide +kernel)).1 (by decide))) hC rfl (rn_move rfl ((hF 0 (by decide +kernel)).2 (by decide)))
            · exact Tl.sm_v 17 _ rfl (Tl.wanted_is rfl rfl ((hF 15 (by decide +kernel)).1 (by decide))) hC rfl (rn_nilCheck rfl ((hF 16 (by decide +kernel)).1 (by decide)))
            · exact Tl.sm_v 18 _ rfl (Tl.wanted_is rfl rfl ((hF 15 (by decide +kernel)).1 (by decide))) hC rfl (rn_f79_3 rfl ((hF 17 (by decide +kernel)).1 (by decide)))
            · exact Tl.sm_v 19 _ rfl (Tl.wanted_is rfl rfl ((hF 15 (by decide +kernel)).1 (by decide))) hC rfl (rn_load3 rfl ((hF 18 (by decide +kernel)).1 (by decide)) (BelW.cell hC (p := ⟨b1, 3, none⟩) hl1 c3))
            · exact Tl.sm_v 20 _ rfl (Tl.wanted_is rfl rfl ((hF 15 (by decide +kernel)).1 (by decide))) hC rfl (rn_move rfl ((hF 1 (by decide +kernel)).2 (by decide)))
            · exact Tl.sm_v 21 _ rfl (Tl.wanted_is rfl rfl ((hF 15 (by decide +kernel)).1 (by decide))) hC rfl (rn_nilCheck rfl ((hF 20 (by decide +kernel)).1 (by decide)))
            · exact Tl.sm_v 22 _ rfl (Tl.wanted_is rfl rfl ((hF 15 (by decide +kernel)).1 (by decide))) hC rfl (rn_f79_3 rfl ((hF 21 (by decide +kernel)).1 (by decide)))
            · exact Tl.sm_v 23 _ rfl (Tl.wanted_is rfl rfl ((hF 15 (by decide +kernel)).1 (by decide))) hC rfl (rn_load3 rfl ((hF 22 (by decide +kernel)).1 (by decide)) (BelW.cell hC (p := ⟨b2, 3, none⟩) hl2 d3))
            · exact Tl.sm_v 24 _ rfl (Tl.wanted_is rfl rfl ((hF 15 (by decide +kernel)).1 (by decide))) hC rfl (rn_neq3 rfl ((hF 19 (by decide +kernel)).1 (by decide)) ((hF 23 (by decide +kernel)).1 (by decide)) q1)
            · exact Tl.sm_v 25 _ rfl (Tl.wanted_none rfl) hC rfl (rn_pickF rfl ((hF 15 (by decide +kernel)).1 (by decide)) ((hF 24 (by decide +kernel)).1 (by decide)))
            · exact Tl.sm_v 26 _ rfl (Tl.wanted_none rfl) hC rfl (rn_move rfl ((hF 25 (by decide +kernel)).1 (by decide)))
            · exact Tl.sm_v 27 _ rfl (Tl.wanted_is rfl rfl ((hF 26 (by decide +kernel)).1 (by decide))) hC rfl (rn_move rfl ((hF 0 (by decide +kernel)).2 (by decide)))
            · exact Tl.sm_v 28 _ rfl (Tl.wanted_is rfl rfl ((hF 26 (by decide +kernel)).1 (by decide))) hC rfl (rn_nilCheck rfl ((hF 27 (by decide +kernel)).1 (by decide)))
            · exact Tl.sm_v 29 _ rfl (Tl.wanted_is rfl rfl ((hF 26 (by decide +kernel)).1 (by decide))) hC rfl (rn_f79_4 rfl ((hF 28 (by decide +kernel)).1 (by decide)))
            · exact Tl.sm_v 30 _ rfl (Tl.wanted_is rfl rfl ((hF 26 (by decide +kernel)).1 (by decide))) hC rfl (rn_load3 rfl ((hF 29 (by decide +kernel)).1 (by decide)) (BelW.cell hC (p := ⟨b1, 4, none⟩) hl1 c4))
            · exact Tl.sm_v 31 _ rfl (Tl.wanted_is rfl rfl ((hF 26 (by decide +kernel)).1 (by decide))) hC rfl (rn_move rfl ((hF 1 (by decide +kernel)).2 (by decide)))
            · exact Tl.sm_v 32 _ rfl (Tl.wanted_is rfl rfl ((hF 26 (by decide +kernel)).1 (by decide))) hC rfl (rn_nilCheck rfl ((hF 31 (by decide +kernel)).1 (by decide)))
            · exact Tl.sm_v 33 _ rfl (Tl.wanted_is rfl rfl ((hF 26 (by decide +kernel)).1 (by decide))) hC rfl (rn_f79_4 rfl ((hF 32 (by decide +kernel)).1 (by decide)))
            · exact Tl.sm_v 34 _ rfl (Tl.wanted_is rfl rfl ((hF 26 (by decide +kernel)).1 (by decide))) hC rfl (rn_load3 rfl ((hF 33 (by decide +kernel)).1 (by decide)) (BelW.cell hC (p := ⟨b2, 4, none⟩) hl2 d4))
            · exact Tl.sm_v 35 _ rfl (Tl.wanted_is rfl rfl ((hF 26 (by decide +kernel)).1 (by decide))) hC rfl (rn_neq3 rfl ((hF 30 (by decide +kernel)).1 (by decide)) ((hF 34 (by decide +kernel)).1 (by decide)) q2)
            · exact Tl.sm_v 36 _ rfl (Tl.wanted_none rfl) hC rfl (rn_pickF rfl ((hF 26 (by decide +kernel)).1 (by decide)) ((hF 35 (by decide +kernel)).1 (by decide)))
            · exact Tl.sm_v 37 _ rfl (Tl.wanted_none rfl) hC rfl (rn_move rfl ((hF 36 (by decide +kernel)).1 (by decide)))
            · exact Tl.sm_v 38 _ rfl (Tl.wanted_is rfl rfl ((hF 37 (by decide +kernel)).1 (by decide))) hC rfl (rn_move rfl ((hF 0 (by decide +kernel)).2 (by decide)))
            · exact Tl.sm_v 39 _ rfl (Tl.wanted_is rfl rfl ((hF 37 (by decide +kernel)).1 (by decide))) hC rfl (rn_nilCheck rfl ((hF 38 (by decide +kernel)).1 (by decide)))
            · exact Tl.sm_v 40 _ rfl (Tl.wanted_is rfl rfl ((hF 37 (by decide +kernel)).1 (by decide))) hC rfl (rn_f79_0 rfl ((hF 39 (by decide +kernel)).1 (by decide)))
            · exact Tl.sm_v 41 _ rfl (Tl.wanted_is rfl rfl ((hF 37 (by decide +kernel)).1 (by decide))) hC rfl (rn_load45 rfl ((hF 40 (by decide +kernel)).1 (by decide)) (BelW.cell hC (p := ⟨b1, 0, none⟩) hl1 c0))
            · exact Tl.sm_v 42 _ rfl (Tl.wanted_is rfl rfl ((hF 37 (by decide +kernel)).1 (by decide))) hC rfl (rn_move rfl ((hF 1 (by decide +kernel)).2 (by decide)))
            · exact Tl.sm_v 43 _ rfl (Tl.wanted_is rfl rfl ((hF 37 (by decide +kernel)).1 (by decide))) hC rfl (rn_nilCheck rfl ((hF 42 (by decide +kernel)).1 (by decide)))
            · exact Tl.sm_v 44 _ rfl (Tl.wanted_is rfl rfl ((hF 37 (by decide +kernel)).1 (by decide))) hC rfl (rn_f79_0 rfl ((hF 43 (by decide +kernel)).1 (by decide)))
            · exact Tl.sm_v 45 _ rfl (Tl.wanted_is rfl rfl ((hF 37 (by decide +kernel)).1 (by decide))) hC rfl (rn_load45 rfl ((hF 44 (by decide +kernel)).1 (by decide)) (BelW.cell hC (p := ⟨b2, 0, none⟩) hl2 d0))
            · refine Tl.sm_call 31 #[gv1, gv2] (Tl.wanted_is rfl rfl ((hF 37 (by decide +kernel)).1 (by decide))) (rn_call2 rfl rfl ((hF 41 (by decide +kernel)).1 (by decide)) ((hF 45 (by decide +kernel)).1 (by decide)) (enter31 _)) ((HSO.out W' hC).mono ?_)
              rintro e w'' ⟨rfl, b1⟩
              exact ⟨_, rfl, Below.trans hC (b1.mono hC.size), fun _ _ _ h => h, fun d hd => by cases hd; exact congrArg Value.bool q3⟩
            · exact Tl.sm_v 47 _ rfl (Tl.wanted_is rfl rfl ((hF 37 (by decide +kernel)).1 (by decide))) hC rfl (rn_not4 rfl ((hF 46 (by decide +kernel)).1 (by decide)) rfl)
            · exact Tl.sm_v 48 _ rfl (Tl.wanted_none rfl) hC rfl (rn_pickF rfl ((hF 37 (by decide +kernel)).1 (by decide)) ((hF 47 (by decide +kernel)).1 (by decide)))
            · exact Tl.sm_v 49 _ rfl (Tl.wanted_none rfl) hC rfl (rn_move rfl ((hF 48 (by decide +kernel)).1 (by decide)))
            · exact Tl.sm_v 50 _ rfl (Tl.wanted_is rfl rfl ((hF 49 (by decide +kernel)).1 (by decide))) hC rfl (rn_move rfl ((hF 0 (by decide +kernel)).2 (by decide)))
            · exact Tl.sm_v 51 _ rfl (Tl.wanted_is rfl rfl ((hF 49 (by decide +kernel)).1 (by decide))) hC rfl (rn_nilCheck rfl ((hF 50 (by decide +kernel)).1 (by decide)))
            · exact Tl.sm_v 52 _ rfl (Tl.wanted_is rfl rfl ((hF 49 (by decide +kernel)).1 (by decide))) hC rfl (rn_f79_1 rfl ((hF 51 (by decide +kernel)).1 (by decide)))
            · exact Tl.sm_v 53 _ rfl (Tl.wanted_is rfl rfl ((hF 49 (by decide +kernel)).1 (by decide))) hC rfl (rn_load77 rfl ((hF 52 (by decide +kernel)).1 (by decide)) (BelW.cell hC (p := ⟨b1, 1, none⟩) hl1 c1))
            · exact Tl.sm_v 54 _ rfl (Tl.wanted_is rfl rfl ((hF 49 (by decide +kernel)).1 (by decide))) hC rfl (rn_len77 rfl ((hF 53 (by decide +kernel)).1 (by decide)) )
            · exact Tl.sm_v 55 _ rfl (Tl.wanted_is rfl rfl ((hF 49 (by decide +kernel)).1 (by decide))) hC rfl (rn_move rfl ((hF 1 (by decide +kernel)).2 (by decide)))
            · exact Tl.sm_v 56 _ rfl (Tl.wanted_is rfl rfl ((hF 49 (by decide +kernel)).1 (by decide))) hC rfl (rn_nilCheck rfl ((hF 55 (by decide +kernel)).1 (by decide)))
            · exact Tl.sm_v 57 _ rfl (Tl.wanted_is rfl rfl ((hF 49 (by decide +kernel)).1 (by decide))) hC rfl (rn_f79_1 rfl ((hF 56 (by decide +kernel)).1 (by decide)))
            · exact Tl.sm_v 58 _ rfl (Tl.wanted_is rfl rfl ((hF 49 (by decide +kernel)).1 (by decide))) hC rfl (rn_load77 rfl ((hF 57 (by decide +kernel)).1 (by decide)) (BelW.cell hC (p := ⟨b2, 1, none⟩) hl2 d1))
            · exact Tl.sm_v 59 _ rfl (Tl.wanted_is rfl rfl ((hF 49 (by decide +kernel)).1 (by decide))) hC rfl (rn_len77 rfl ((hF 58 (by decide +kernel)).1 (by decide)) )
            · exact Tl.sm_v 60 _ rfl (Tl.wanted_is rfl rfl ((hF 49 (by decide +kernel)).1 (by decide))) hC rfl (rn_neq3 rfl ((hF 54 (by decide +kernel)).1 (by decide)) ((hF 59 (by decide +kernel)).1 (by decide)) q4)
            · exact Tl.sm_v 61 _ rfl (Tl.wanted_none rfl) hC rfl (rn_pickF rfl ((hF 49 (by decide +kernel)).1 (by decide)) ((hF 60 (by decide +kernel)).1 (by decide)))
            intro v W2 hw2 hv
            have v61 : v 61 = .bool x := hv 61 (by decide)
            rw [hx] at v61
            have e1 : W2.cell? ⟨b1, 1, none⟩ = some (.slice a1 r.writes.length a1c) := BelW.cell hw2 (p := ⟨b1, 1, none⟩) hl1 c1
            have e2 : W2.cell? ⟨b2, 1, none⟩ = some (.slice a2 t.writes.length a2c) := BelW.cell hw2 (p := ⟨b2, 1, none⟩) hl2 d1
            have HB2 := hid hw2
            have HV1 := hid (row_below HW1.out hw2)
            have HV2 := hid (row_below HW2.out hw2)
            clear hv hw2 HSO HW1 HW2 HI1 HI2 c0 c1 c2 c3 c4 d0 d1 d2 d3 d4 hl1 hl2 q0 q1 q2 q3 q4 hx
            simp only [Tl.fill, List.drop_succ_cons, List.drop_zero, wpList]
            simp only [Act.put, List.setIfInBounds_toArray, List.set_cons_succ, List.set_cons_zero, v61]
            clear v61
            generalize hA : r.writes = A at *
            generalize hB : t.writes = B at *
            clear hA hB
            rw [← hwl] at e2
            generalize hL : A.length = L at *
            have HA := hid hL
            have HB := hid hwl.symm
            clear hL
            go_wp2_with fail
            go_loopg [5] L (fun gk s5 wx => ∃ k : Nat, k + gk = L ∧ s5 = .int .i64 (k : Int) ∧ Hid (A.take k = B.take k) ∧ Below W2.heap.size W2 wx)
            case atStart => exact ⟨0, by omega, rfl, hid (by simp), Below.refl _ _⟩
            case round =>
              obtain ⟨k, hk, rfl, HT, hbw⟩ := hrel
              have HBW := hid (show Below w.heap.size w wr from Below.trans HB2.out (hbw.mono (Below.size HB2.out)))
              have HBV := hid hbw
              have e1 : wr.cell? ⟨b1, 1, none⟩ = some (.slice a1 L a1c) := by rw [hbw.cell (p := ⟨b1, 1, none⟩) (HL1.out W2 HB2.out)]; exact e1
              have e2 : wr.cell? ⟨b2, 1, none⟩ = some (.slice a2 L a2c) := by rw [hbw.cell (p := ⟨b2, 1, none⟩) (HL2.out W2 HB2.out)]; exact e2
              cases gk with
              | zero =>
                have q1 : ¬ ((k : Int) < (L : Int)) := by omega
                have HE := hid (show decide (A = B) = true from decide_eq_true (by
                  have := HT.out
                  rwa [List.take_of_length_le (by rw [HA.out]; omega), List.take_of_length_le (by rw [HB.out]; omega)] at this))
                clear hbw HT
                go_wp2_with fail
                go_ret
                exact ⟨by have := HEG.out; simp only [Bool.and_eq_true] at this; rw [HSM.out, HE.out, this.1, this.2.1, this.2.2.1, this.2.2.2]; rfl, HBW.out⟩
              | succ g1' =>
                have q1 : (k : Int) < (L : Int) := by omega
                have hk1 : k < L := by omega
                obtain ⟨p, hp⟩ : ∃ p, A[k]? = some p := ⟨_, List.getElem?_eq_getElem (by rw [HA.out]; exact hk1)⟩
                obtain ⟨q, hq⟩ : ∃ q, B[k]? = some q := ⟨_, List.getElem?_eq_getElem (by rw [HB.out]; exact hk1)⟩
                obtain ⟨g1, ca, ea, p0, p1, p2⟩ := rw_cells (row_below (by rw [HA.out]; exact HV1.out) hbw) hp
                obtain ⟨g2, cb, eb, s0, s1, s2⟩ := rw_cells (row_below (by rw [HB.out]; exact (by simpa [HB.out] using HV2.out)) hbw) hq
                rw [HA.out] at ea
                rw [HB.out] at eb
                cases ea
                cases eb
                have HS := hid (show p = q → A.take (k + 1) = B.take (k + 1) from fun e => take_eq_succ HT.out hp hq e)
                have HN := hid (show p ≠ q → decide (A = B) = false from fun e => decide_eq_false fun e2 => e (by rw [e2, hq] at hp; exact (Option.some.inj hp).symm))
                clear hp hq hbw HT
                go_wp2_with fail
                refine Tl.wp_mix_lit (by kernel_rfl) 15 [71, 72, 73, 74, 75, 76, 77, 78, 79, 80, 81, 82, 83, 84, 85] 86 rfl (by kernel_rfl) (AtW wr.drew) (swF b1 b2 (.slice (some ⟨g1, 0, none⟩) L a1c) (.slice (some ⟨g2, 0, none⟩) L a2c) g1 g2 k p q) rfl
                  ⟨fun a' W' hC hF => ?_, fun a' W' hC hF => ?_, fun a' W' hC hF => ?_, fun a' W' hC hF => ?_, fun a' W' hC hF => ?_, fun a' W' hC hF => ?_, fun a' W' hC hF => ?_, fun a' W' hC hF => ?_, fun a' W' hC hF => ?_, fun a' W' hC hF => ?_, fun a' W' hC hF => ?_, fun a' W' hC hF => ?_, fun a' W' hC hF => ?_, fun a' W' hC hF => ?_, fun a' W' hC hF => ?_, trivial⟩ ?_
                · exact Tl.sm_v 71 _ rfl (Tl.wanted_none rfl) hC rfl (rn_move rfl ((hF 0 (by decide +kernel)).2 (by decide)))
                · exact Tl.sm_v 72 _ rfl (Tl.wanted_none rfl) hC rfl (rn_nilCheck rfl ((hF 71 (by decide +kernel)).1 (by decide)))
                · exact Tl.sm_v 73 _ rfl (Tl.wanted_none rfl) hC rfl (rn_f79_1 rfl ((hF 72 (by decide +kernel)).1 (by decide)))
                · exact Tl.sm_v 74 _ rfl (Tl.wanted_none rfl) hC rfl (rn_load77 rfl ((hF 73 (by decide +kernel)).1 (by decide)) (by rw [show W' = _ from hC]; exact e1))
                · exact Tl.sm_v 75 _ rfl (Tl.wanted_none rfl) hC rfl (rn_move rfl ((hF 5 (by decide +kernel)).2 (by decide)))
                · exact Tl.sm_v 76 _ rfl (Tl.wanted_none rfl) hC rfl (rn_ix77 rfl ((hF 74 (by decide +kernel)).1 (by decide)) ((hF 75 (by decide +kernel)).1 (by decide)) hk1)
                · exact Tl.sm_v 77 _ rfl (Tl.wanted_none rfl) hC rfl (rn_load90 rfl ((hF 76 (by decide +kernel)).1 (by decide)) (by rw [show W' = _ from hC]; exact p0) (by rw [show W' = _ from hC]; exact p1) (by rw [show W' = _ from hC]; exact p2))
                · exact Tl.sm_v 78 _ rfl (Tl.wanted_none rfl) hC rfl (rn_move rfl ((hF 1 (by decide +kernel)).2 (by decide)))
                · exact Tl.sm_v 79 _ rfl (Tl.wanted_none rfl) hC rfl (rn_nilCheck rfl ((hF 78 (by decide +kernel)).1 (by decide)))
                · exact Tl.sm_v 80 _ rfl (Tl.wanted_none rfl) hC rfl (rn_f79_1 rfl ((hF 79 (by decide +kernel)).1 (by decide)))
                · exact Tl.sm_v 81 _ rfl (Tl.wanted_none rfl) hC rfl (rn_load77 rfl ((hF 80 (by decide +kernel)).1 (by decide)) (by rw [show W' = _ from hC]; exact e2))
                · exact Tl.sm_v 82 _ rfl (Tl.wanted_none rfl) hC rfl (rn_move rfl ((hF 5 (by decide +kernel)).2 (by decide)))
                · exact Tl.sm_v 83 _ rfl (Tl.wanted_none rfl) hC rfl (rn_ix77 rfl ((hF 81 (by decide +kernel)).1 (by decide)) ((hF 82 (by decide +kernel)).1 (by decide)) hk1)
                · exact Tl.sm_v 84 _ rfl (Tl.wanted_none rfl) hC rfl (rn_load90 rfl ((hF 83 (by decide +kernel)).1 (by decide)) (by rw [show W' = _ from hC]; exact s0) (by rw [show W' = _ from hC]; exact s1) (by rw [show W' = _ from hC]; exact s2))
                · exact Tl.sm_v 85 _ rfl (Tl.wanted_none rfl) hC rfl (rn_neq90 rfl ((hF 77 (by decide +kernel)).1 (by decide)) ((hF 84 (by decide +kernel)).1 (by decide)) )
                intro v wB hw hv
                obtain rfl : wB = _ := hw
                have v85 : v 85 = .bool (!decide (p = q)) := hv 85 (by decide)
                clear hv
                simp only [Tl.fill, List.drop_succ_cons, List.drop_zero, wpList]
                by_cases hpq : p = q
                · rw [decide_eq_true hpq] at v85
                  simp only [Act.put, List.setIfInBounds_toArray, List.set_cons_succ, List.set_cons_zero, v85]
                  have HS' := hid (HS.out hpq)
                  clear hpq v85
                  go_wp2_with fail
                  go_roundg g1'
                  case measure => omega
                  case rel => exact ⟨k + 1, by omega, by first | rfl | simp, HS', HBV.out.drew⟩
                · rw [decide_eq_false hpq] at v85
                  simp only [Act.put, List.setIfInBounds_toArray, List.set_cons_succ, List.set_cons_zero, v85]
                  have HN' := hid (HN.out hpq)
                  clear hpq v85
                  go_wp2_with fail
                  go_ret
                  exact ⟨by have := HEG.out; simp only [Bool.and_eq_true] at this; rw [HSM.out, HN'.out, this.1, this.2.1, this.2.2.1, this.2.2.2]; rfl, HBW.out.drew⟩
          · obtain ⟨x, hx⟩ : ∃ x : Bool, x = true := ⟨_, rfl⟩
            have q4 : decide ((r.writes.length : Int) = (t.writes.length : Int)) = !x := by rw [hx]; exact decide_eq_false (by omega)
            have HE := hid (show decide (r.writes = t.writes) = false from decide_eq_false fun e => hwl (by rw [e]))
            go_enter Try.func27, Try.ntmps27
            go_wp2_with fail
            refine Tl.wp_mix_lit (by kernel_rfl) 56 [6, 7, 8, 9, 10, 11, 12, 13, 14, 15, 16, 17, 18, 19, 20, 21, 22, 23, 24, 25, 26, 27, 28, 29, 30, 31, 32, 33, 34, 35, 36, 37, 38, 39, 40, 41, 42, 43, 44, 45, 46, 47, 48, 49, 50, 51, 52, 53, 54, 55, 56, 57, 58, 59, 60, 61] 86 rfl (by kernel_rfl) (BelW w) (smF4 b1 b2 r t gv1 gv2 (.slice a1 r.writes.length a1c) (.slice a2 t.writes.length a2c) x) ((Below.refl _ _).drew)
              ⟨fun a' W' hC hF => ?_, fun a' W' hC hF => ?_, fun a' W' hC hF => ?_, fun a' W' hC hF => ?_, fun a' W' hC hF => ?_, fun a' W' hC hF => ?_, fun a' W' hC hF => ?_, fun a' W' hC hF => ?_, fun a' W' hC hF => ?_, fun a' W' hC hF => ?_, fun a' W' hC hF => ?_, fun a' W' hC hF => ?_, fun a' W' hC hF => ?_, fun a' W' hC hF => ?_, fun a' W' hC hF => ?_, fun a' W' hC hF => ?_, fun a' W' hC hF => ?_, fun a' W' hC hF => ?_, fun a' W' hC hF => ?_, fun a' W' hC hF => ?_, fun a' W' hC hF => ?_, fun a' W' hC hF => ?_, fun a' W' hC hF => ?_, fun a' W' hC hF => ?_, fun a' W' hC hF => ?_, fun a' W' hC hF => ?_, fun a' W' hC hF => ?_, fun a' W' hC hF => ?_, fun a' W' hC hF => ?_, fun a' W' hC hF => ?_, fun a' W' hC hF => ?_, fun a' W' hC hF => ?_, fun a' W' hC hF => ?_, fun a' W' hC hF => ?_, fun a' W' hC hF => ?_, fun a' W' hC hF => ?_, fun a' W' hC hF => ?_, fun a' W' hC hF => ?_, fun a' W' hC hF => ?_, fun a' W' hC hF => ?_, fun a' W' hC hF => ?_, fun a' W' hC hF => ?_, fun a' W' hC hF => ?_, fun a' W' hC hF => ?_, fun a' W' hC hF => ?_, fun a' W' hC hF => ?_, fun a' W' hC hF => ?_, fun a' W' hC hF => ?_, fun a' W' hC hF => ?_, fun a' W' hC hF => ?_, fun a' W' hC hF => ?_, fun a' W' hC hF => ?_, fun a' W' hC hF => ?_, fun a' W' hC hF => ?_, fun a' W' hC hF => ?_, fun a' W' hC hF => ?_, trivial⟩ ?_
            · exact Tl.sm_v 6 _ rfl (Tl.wanted_none rfl) hC rfl (rn_move rfl ((hF 0 (by decide +kernel)).2 (by decide)))
            · exact Tl.sm_v 7 _ rfl (Tl.wanted_none rfl) hC rfl (rn_nilCheck rfl ((hF 6 (by decide +kernel)).1 (by decide)))
            · exact Tl.sm_v 8 _ rfl (Tl.wanted_none rfl) hC rfl (rn_f79_2 rfl ((hF 7 (by decide +kernel)).1 (by decide)))
            · exact Tl.sm_v 9 _ rfl (Tl.wanted_none rfl) hC rfl (rn_load4 rfl ((hF 8 (by decide +kernel)).1 (by decide)) (BelW.cell hC (p := ⟨b1, 2, none⟩) hl1 c2))
            · exact Tl.sm_v 10 _ rfl (Tl.wanted_none rfl) hC rfl (rn_move rfl ((hF 1 (by decide +kernel)).2 (by decide)))
            · exact Tl.sm_v 11 _ rfl (Tl.wanted_none rfl) hC rfl (rn_nilCheck rfl ((hF 10 (by decide +kernel)).1 (by decide)))
            · exact Tl.sm_v 12 _ rfl (Tl.wanted_none rfl) hC rfl (rn_f79_2 rfl ((hF 11 (by decide +kernel)).1 (by decide)))
            · exact Tl.sm_v 13 _ rfl (Tl.wanted_none rfl) hC rfl (rn_load4 rfl ((hF 12 (by decide +kernel)).1 (by decide)) (BelW.cell hC (p := ⟨b2, 2, none⟩) hl2 d2))
            · exact Tl.sm_v 14 _ rfl (Tl.wanted_none rfl) hC rfl (rn_neq4 rfl ((hF 9 (by decide +kernel)).1 (by decide)) ((hF 13 (by decide +kernel)).1 (by decide)) q0)
            · exact Tl.sm_v 15 _ rfl (Tl.wanted_none rfl) hC rfl (rn_move rfl ((hF 14 (by decide +kernel)).1 (by decide)))
            · exact Tl.sm_v 16 _ rfl (Tl.wanted_is rfl rfl ((hF 15 (by decide +kernel)).1 (by decide))) hC rfl (rn_move rfl ((hF 0 (by decide +kernel)).2 (by decide)))
            · exact Tl.sm_v 17 _ rfl (Tl.wanted_is rfl rfl ((hF 15 (by decide +kernel)).1 (by decide))) hC rfl (rn_nilCheck rfl ((hF 16 (by decide +kernel)).1 (by decide)))
            · exact Tl.sm_v 18 _ rfl (Tl.wanted_is rfl rfl ((hF 15 (by decide +kernel)).1 (by decide))) hC rfl (rn_f79_3 rfl ((hF 17 (by decide +kernel)).1 (by decide)))
            · exact Tl.sm_v 19 _ rfl (Tl.wanted_is rfl rfl ((hF 15 (by decide +kernel)).1 (by decide))) hC rfl (rn_load3 rfl ((hF 18 (by decide +kernel)).1 (by decide)) (BelW.cell hC (p := ⟨b1, 3, none⟩) hl1 c3))
            · exact Tl.sm_v 20 _ rfl (Tl.wanted_is rfl rfl ((hF 15 (by decide +kernel)).1 (by decide))) hC rfl (rn_move rfl ((hF 1 (by decide +kernel)).2 (by decide)))
            · exact Tl.sm_v 21 _ rfl (Tl.wanted_is rfl rfl ((hF 15 (by decide +kernel)).1 (by decide))) hC rfl (rn_nilCheck rfl ((hF 20 (by decide +kernel)).1 (by decide)))
            · exact Tl.sm_v 22 _ rfl (Tl.wanted_is rfl rfl ((hF 15 (by decide +kernel)).1 (by decide))) hC rfl (rn_f79_3 rfl ((hF 21 (by decide +kernel)).1 (by decide)))
            · exact Tl.sm_v 23 _ rfl (Tl.wanted_is rfl rfl ((hF 15 (by decide +kernel)).1 (by decide))) hC rfl (rn_load3 rfl ((hF 22 (by decide +kernel)).1 (by decide)) (BelW.cell hC (p := ⟨b2, 3, none⟩) hl2 d3))
            · exact Tl.sm_v 24 _ rfl (Tl.wanted_is rfl rfl ((hF 15 (by decide +kernel)).1 (by decide))) hC rfl (rn_neq3 rfl ((hF 19 (by decide +kernel)).1 (by decide)) ((hF 23 (by decide +kernel)).1 (by decide)) q1)
            · exact Tl.sm_v 25 _ rfl (Tl.wanted_none rfl) hC rfl (rn_pickF rfl ((hF 15 (by decide +kernel)).1 (by decide)) ((hF 24 (by decide +kernel)).1 (by decide)))
            · exact Tl.sm_v 26 _ rfl (Tl.wanted_none rfl) hC rfl (rn_move rfl ((hF 25 (by decide +kernel)).1 (by decide)))
            · exact Tl.sm_v 27 _ rfl (Tl.wanted_is rfl rfl ((hF 26 (by decide +kernel)).1 (by decide))) hC rfl (rn_move rfl ((hF 0 (by decide +kernel)).2 (by decide)))
            · exact Tl.sm_v 28 _ rfl (Tl.wanted_is rfl rfl ((hF 26 (by decide +kernel)).1 (by decide))) hC rfl (rn_nilCheck rfl ((hF 27 (by decide +kernel)).1 (by decide)))
            · exact Tl.sm_v 29 _ rfl (Tl.wanted_is rfl rfl ((hF 26 (by decide +kernel)).1 (by decide))) hC rfl (rn_f79_4 rfl ((hF 28 (by decide +kernel)).1 (by decide)))
            · exact Tl.sm_v 30 _ rfl (Tl.wanted_is rfl rfl ((hF 26 (by decide +kernel)).1 (by decide))) hC rfl (rn_load3 rfl ((hF 29 (by decide +kernel)).1 (by decide)) (BelW.cell hC (p := ⟨b1, 4, none⟩) hl1 c4))
            · exact Tl.sm_v 31 _ rfl (Tl.wanted_is rfl rfl ((hF 26 (by decide +kernel)).1 (by decide))) hC rfl (rn_move rfl ((hF 1 (by decide +kernel)).2 (by decide)))
            · exact Tl.sm_v 32 _ rfl (Tl.wanted_is rfl rfl ((hF 26 (by decide +kernel)).1 (by decide))) hC rfl (rn_nilCheck rfl ((hF 31 (by decide +kernel)).1 (by decide)))
            · exact Tl.sm_v 33 _ rfl (Tl.wanted_is rfl rfl ((hF 26 (by decide +kernel)).1 (by decide))) hC rfl (rn_f79_4 rfl ((hF 32 (by decide +kernel)).1 (by decide)))
            · exact Tl.sm_v 34 _ rfl (Tl.wanted_is rfl rfl ((hF 26 (by decide +kernel)).1 (by decide))) hC rfl (rn_load3 rfl ((hF 33 (by decide +kernel)).1 (by decide)) (BelW.cell hC (p := ⟨b2, 4, none⟩) hl2 d4))
            · exact Tl.sm_v 35 _ rfl (Tl.wanted_is rfl rfl ((hF 26 (by decide +kernel)).1 (by decide))) hC rfl (rn_neq3 rfl ((hF 30 (by decide +kernel)).1 (by decide)) ((hF 34 (by decide +kernel)).1 (by decide)) q2)
            · exact Tl.sm_v 36 _ rfl (Tl.wanted_none rfl) hC rfl (rn_pickF rfl ((hF 26 (by decide +kernel)).1 (by decide)) ((hF 35 (by decide +kernel)).1 (by decide)))
            · exact Tl.sm_v 37 _ rfl (Tl.wanted_none rfl) hC rfl (rn_move rfl ((hF 36 (by decide +kernel)).1 (by decide)))
            · exact Tl.sm_v 38 _ rfl (Tl.wanted_is rfl rfl ((hF 37 (by decide +kernel)).1 (by decide))) hC rfl (rn_move rfl ((hF 0 (by decide +kernel)).2 (by decide)))
            · exact Tl.sm_v 39 _ rfl (Tl.wanted_is rfl rfl ((hF 37 (by decide +kernel)).1 (by decide))) hC rfl (rn_nilCheck rfl ((hF 38 (by decide +kernel)).1 (by decide)))
            · exact Tl.sm_v 40 _ rfl (Tl.wanted_is rfl rfl ((hF 37 (by decide +kernel)).1 (by decide))) hC rfl (rn_f79_0 rfl ((hF 39 (by decide +kernel)).1 (by decide)))
            · exact Tl.sm_v 41 _ rfl (Tl.wanted_is rfl rfl ((hF 37 (by decide +kernel)).1 (by decide))) hC rfl (rn_load45 rfl ((hF 40 (by decide +kernel)).1 (by decide)) (BelW.cell hC (p := ⟨b1, 0, none⟩) hl1 c0))
            · exact Tl.sm_v 42 _ rfl (Tl.wanted_is rfl rfl ((hF 37 (by decide +kernel)).1 (by decide))) hC rfl (rn_move rfl ((hF 1 (by decide +kernel)).2 (by decide)))
            · exact Tl.sm_v 43 _ rfl (Tl.wanted_is rfl rfl ((hF 37 (by decide +kernel)).1 (by decide))) hC rfl (rn_nilCheck rfl ((hF 42 (by decide +kernel)).1 (by decide)))
            · exact Tl.sm_v 44 _ rfl (Tl.wanted_is rfl rfl ((hF 37 (by decide +kernel)).1 (by decide))) hC rfl (rn_f79_0 rfl ((hF 43 (by decide +kernel)).1 (by decide)))
            · exact Tl.sm_v 45 _ rfl (Tl.wanted_is rfl rfl ((hF 37 (by decide +kernel)).1 (by decide))) hC rfl (rn_load45 rfl ((hF 44 (by decide +kernel)).1 (by decide)) (BelW.cell hC (p := ⟨b2, 0, none⟩) hl2 d0))
            · refine Tl.sm_call 31 #[gv1, gv2] (Tl.wanted_is rfl rfl ((hF 37 (by decide +kernel)).1 (by decide))) (rn_call2 rfl rfl ((hF 41 (by decide +kernel)).1 (by decide)) ((hF 45 (by decide +kernel)).1 (by decide)) (enter31 _)) ((HSO.out W' hC).mono ?_)
              rintro e w'' ⟨rfl, b1⟩
              exact ⟨_, rfl, Below.trans hC (b1.mono hC.size), fun _ _ _ h => h, fun d hd => by cases hd; exact congrArg Value.bool q3⟩
            · exact Tl.sm_v 47 _ rfl (Tl.wanted_is rfl rfl ((hF 37 (by decide +kernel)).1 (by decide))) hC rfl (rn_not4 rfl ((hF 46 (by decide +kernel)).1 (by decide)) rfl)
            · exact Tl.sm_v 48 _ rfl (Tl.wanted_none rfl) hC rfl (rn_pickF rfl ((hF 37 (by decide +kernel)).1 (by decide)) ((hF 47 (by decide +kernel)).1 (by decide)))
            · exact Tl.sm_v 49 _ rfl (Tl.wanted_none rfl) hC rfl (rn_move rfl ((hF 48 (by decide +kernel)).1 (by decide)))
            · exact Tl.sm_v 50 _ rfl (Tl.wanted_is rfl rfl ((hF 49 (by decide +kernel)).1 (by decide))) hC rfl (rn_move rfl ((hF 0 (by decide +kernel)).2 (by decide)))
            · exact Tl.sm_v 51 _ rfl (Tl.wanted_is rfl rfl ((hF 49 (by decide +kernel)).1 (by decide))) hC rfl (rn_nilCheck rfl ((hF 50 (by decide +kernel)).1 (by decide)))
            · exact Tl.sm_v 52 _ rfl (Tl.wanted_is rfl rfl ((hF 49 (by decide +kernel)).1 (by decide))) hC rfl (rn_f79_1 rfl ((hF 51 (by decide +kernel)).1 (by decide)))
            · exact Tl.sm_v 53 _ rfl (Tl.wanted_is rfl rfl ((hF 49 (by decide +kernel)).1 (by decide))) hC rfl (rn_load77 rfl ((hF 52 (by decide +kernel)).1 (by decide)) (BelW.cell hC (p := ⟨b1, 1, none⟩) hl1 c1))
            · exact Tl.sm_v 54 _ rfl (Tl.wanted_is rfl rfl ((hF 49 (by decide +kernel)).1 (by decide))) hC rfl (rn_len77 rfl ((hF 53 (by decide +kernel)).1 (by decide)) )
            · exact Tl.sm_v 55 _ rfl (Tl.wanted_is rfl rfl ((hF 49 (by decide +kernel)).1 (by decide))) hC rfl (rn_move rfl ((hF 1 (by decide +kernel)).2 (by decide)))
            · exact Tl.sm_v 56 _ rfl (Tl.wanted_is rfl rfl ((hF 49 (by decide +kernel)).1 (by decide))) hC rfl (rn_nilCheck rfl ((hF 55 (by decide +kernel)).1 (by decide)))
            · exact Tl.sm_v 57 _ rfl (Tl.wanted_is rfl rfl ((hF 49 (by decide +kernel)).1 (by decide))) hC rfl (rn_f79_1 rfl ((hF 56 (by decide +kernel)).1 (by decide)))
            · exact Tl.sm_v 58 _ rfl (Tl.wanted_is rfl rfl ((hF 49 (by decide +kernel)).1 (by decide))) hC rfl (rn_load77 rfl ((hF 57 (by decide +kernel)).1 (by decide)) (BelW.cell hC (p := ⟨b2, 1, none⟩) hl2 d1))
            · exact Tl.sm_v 59 _ rfl (Tl.wanted_is rfl rfl ((hF 49 (by decide +kernel)).1 (by decide))) hC rfl (rn_len77 rfl ((hF 58 (by decide +kernel)).1 (by decide)) )
            · exact Tl.sm_v 60 _ rfl (Tl.wanted_is rfl rfl ((hF 49 (by decide +kernel)).1 (by decide))) hC rfl (rn_neq3 rfl ((hF 54 (by decide +kernel)).1 (by decide)) ((hF 59 (by decide +kernel)).1 (by decide)) q4)
            · exact Tl.sm_v 61 _ rfl (Tl.wanted_none rfl) hC rfl (rn_pickF rfl ((hF 49 (by decide +kernel)).1 (by decide)) ((hF 60 (by decide +kernel)).1 (by decide)))
            intro v W2 hw2 hv
            have v61 : v 61 = .bool x := hv 61 (by decide)
            rw [hx] at v61
            clear hv
            simp only [Tl.fill, List.drop_succ_cons, List.drop_zero, wpList]
            simp only [Act.put, List.setIfInBounds_toArray, List.set_cons_succ, List.set_cons_zero, v61]
            have HB2 := hid hw2
            clear hw2 v61 HSO HW1 HW2 HI1 HI2 c0 c1 c2 c3 c4 d0 d1 d2 d3 d4 hl1 hl2 q0 q1 q2 q3 q4 hx
            go_wp2_with fail
            go_ret
            exact ⟨by have := HEG.out; simp only [Bool.and_eq_true] at this; rw [HSM.out, HE.out, this.1, this.2.1, this.2.2.1, this.2.2.2]; rfl, HB2.out⟩
        · have q3 : decide (r.good = t.good) = false := decide_eq_false hg
          have HE := hid (show (decide (r.good = t.good) && decide (r.writes = t.writes)) = false from by rw [q3]; rfl)
          clear hd ha hm hg
          clear hw1 hw2
          go_enter Try.func27, Try.ntmps27
          go_wp2_with fail
          refine Tl.wp_mix_lit (by kernel_rfl) 56 [6, 7, 8, 9, 10, 11, 12, 13, 14, 15, 16, 17, 18, 19, 20, 21, 22, 23, 24, 25, 26, 27, 28, 29, 30, 31, 32, 33, 34, 35, 36, 37, 38, 39, 40, 41, 42, 43, 44, 45, 46, 47, 48, 49, 50, 51, 52, 53, 54, 55, 56, 57, 58, 59, 60, 61] 86 rfl (by kernel_rfl) (BelW w) (smF3 b1 b2 r t gv1 gv2 wv1 wv2 x) ((Below.refl _ _).drew)
            ⟨fun a' W' hC hF => ?_, fun a' W' hC hF => ?_, fun a' W' hC hF => ?_, fun a' W' hC hF => ?_, fun a' W' hC hF => ?_, fun a' W' hC hF => ?_, fun a' W' hC hF => ?_, fun a' W' hC hF => ?_, fun a' W' hC hF => ?_, fun a' W' hC hF => ?_, fun a' W' hC hF => ?_, fun a' W' hC hF => ?_, fun a' W' hC hF => ?_, fun a' W' hC hF => ?_, fun a' W' hC hF => ?_, fun a' W' hC hF => ?_, fun a' W' hC hF => ?_, fun a' W' hC hF => ?_, fun a' W' hC hF => ?_, fun a' W' hC hF => ?_, fun a' W' hC hF => ?_, fun a' W' hC hF => ?_, fun a' W' hC hF => ?_, fun a' W' hC hF => ?_, fun a' W' hC hF => ?_, fun a' W' hC hF => ?_, fun a' W' hC hF => ?_, fun a' W' hC hF => ?_, fun a' W' hC hF => ?_, fun a' W' hC hF => ?_, fun a' W' hC hF => ?_, fun a' W' hC hF => ?_, fun a' W' hC hF => ?_, fun a' W' hC hF => ?_, fun a' W' hC hF => ?_, fun a' W' hC hF => ?_, fun a' W' hC hF => ?_, fun a' W' hC hF => ?_, fun a' W' hC hF => ?_, fun a' W' hC hF => ?_, fun a' W' hC hF => ?_, fun a' W' hC hF => ?_, fun a' W' hC hF => ?_, fun a' W' hC hF => ?_, fun a' W' hC hF => ?_, fun a' W' hC hF => ?_, fun a' W' hC hF => ?_, fun a' W' hC hF => ?_, fun a' W' hC hF => ?_, fun a' W' hC hF => ?_, fun a' W' hC hF => ?_, fun a' W' hC hF => ?_, fun a' W' hC hF => ?_, fun a' W' hC hF => ?_, fun a' W' hC hF => ?_, fun a' W' hC hF => ?_, trivial⟩ ?_
          · exact Tl.sm_v 6 _ rfl (Tl.wanted_none rfl) hC rfl (rn_move rfl ((hF 0 (by decide +kernel)).2 (by decide)))
          · exact Tl.sm_v 7 _ rfl (Tl.wanted_none rfl) hC rfl (rn_nilCheck rfl ((hF 6 (by decide +kernel)).1 (by decide)))
          · exact Tl.sm_v 8 _ rfl (Tl.wanted_none rfl) hC rfl (rn_f79_2 rfl ((hF 7 (by decide +kernel)).1 (by decide)))
          · exact Tl.sm_v 9 _ rfl (Tl.wanted_none rfl) hC rfl (rn_load4 rfl ((hF 8 (by decide +kernel)).1 (by decide)) (BelW.cell hC (p := ⟨b1, 2, none⟩) hl1 c2))
          · exact Tl.sm_v 10 _ rfl (Tl.wanted_none rfl) hC rfl (rn_move rfl ((hF 1 (by decide +kernel)).2 (by decide)))
          · exact Tl.sm_v 11 _ rfl (Tl.wanted_none rfl) hC rfl (rn_nilCheck rfl ((hF 10 (by decide +kernel)).1 (by decide)))
          · exact Tl.sm_v 12 _ rfl (Tl.wanted_none rfl) hC rfl (rn_f79_2 rfl ((hF 11 (by decide +kernel)).1 (by decide)))
          · exact Tl.sm_v 13 _ rfl (Tl.wanted_none rfl) hC rfl (rn_load4 rfl ((hF 12 (by decide +kernel)).1 (by decide)) (BelW.cell hC (p := ⟨b2, 2, none⟩) hl2 d2))
          · exact Tl.sm_v 14 _ rfl (Tl.wanted_none rfl) hC rfl (rn_neq4 rfl ((hF 9 (by decide +kernel)).1 (by decide)) ((hF 13 (by decide +kernel)).1 (by decide)) q0)
          · exact Tl.sm_v 15 _ rfl (Tl.wanted_none rfl) hC rfl (rn_move rfl ((hF 14 (by decide +kernel)).1 (by decide)))
          · exact Tl.sm_v 16 _ rfl (Tl.wanted_is rfl rfl ((hF 15 (by decide +kernel)).1 (by decide))) hC rfl (rn_move rfl ((hF 0 (by decide +kernel)).2 (by decide)))
          · exact Tl.sm_v 17 _ rfl (Tl.wanted_is rfl rfl ((hF 15 (by decide +kernel)).1 (by decide))) hC rfl (rn_nilCheck rfl ((hF 16 (by decide +kernel)).1 (by decide)))
          · exact Tl.sm_v 18 _ rfl (Tl.wanted_is rfl rfl ((hF 15 (by decide +kernel)).1 (by decide))) hC rfl (rn_f79_3 rfl ((hF 17 (by decide +kernel)).1 (by decide)))
          · exact Tl.sm_v 19 _ rfl (Tl.wanted_is rfl rfl ((hF 15 (by decide +kernel)).1 (by decide))) hC rfl (rn_load3 rfl ((hF 18 (by decide +kernel)).1 (by decide)) (BelW.cell hC (p := ⟨b1, 3, none⟩) hl1 c3))
          · exact Tl.sm_v 20 _ rfl (Tl.wanted_is rfl rfl ((hF 15 (by decide +kernel)).1 (by decide))) hC rfl (rn_move rfl ((hF 1 (by decide +kernel)).2 (by decide)))
          · exact Tl.sm_v 21 _ rfl (Tl.wanted_is rfl rfl ((hF 15 (by decide +kernel)).1 (by decide))) hC rfl (rn_nilCheck rfl ((hF 20 (by decide +kernel)).1 (by decide)))
          · exact Tl.sm_v 22 _ rfl (Tl.wanted_is rfl rfl ((hF 15 (by decide +kernel)).1 (by decide))) hC rfl (rn_f79_3 rfl ((hF 21 (by decide +kernel)).1 (by decide)))
          · exact Tl.sm_v 23 _ rfl (Tl.wanted_is rfl rfl ((hF 15 (by decide +kernel)).1 (by decide))) hC rfl (rn_load3 rfl ((hF 22 (by decide +kernel)).1 (by decide)) (BelW.cell hC (p := ⟨b2, 3, none⟩) hl2 d3))
          · exact Tl.sm_v 24 _ rfl (Tl.wanted_is rfl rfl ((hF 15 (by decide +kernel)).1 (by decide))) hC rfl (rn_neq3 rfl ((hF 19 (by decide +kernel)).1 (by decide)) ((hF 23 (by decide +kernel)).1 (by decide)) q1)
          · exact Tl.sm_v 25 _ rfl (Tl.wanted_none rfl) hC rfl (rn_pickF rfl ((hF 15 (by decide +kernel)).1 (by decide)) ((hF 24 (by decide +kernel)).1 (by decide)))
          · exact Tl.sm_v 26 _ rfl (Tl.wanted_none rfl) hC rfl (rn_move rfl ((hF 25 (by decide +kernel)).1 (by decide)))
          · exact Tl.sm_v 27 _ rfl (Tl.wanted_is rfl rfl ((hF 26 (by decide +kernel)).1 (by decide))) hC rfl (rn_move rfl ((hF 0 (by decide +kernel)).2 (by decide)))
          · exact Tl.sm_v 28 _ rfl (Tl.wanted_is rfl rfl ((hF 26 (by decide +kernel)).1 (by decide))) hC rfl (rn_nilCheck rfl ((hF 27 (by decide +kernel)).1 (by decide)))
          · exact Tl.sm_v 29 _ rfl (Tl.wanted_is rfl rfl ((hF 26 (by decide +kernel)).1 (by decide))) hC rfl (rn_f79_4 rfl ((hF 28 (by decide +kernel)).1 (by decide)))
          · exact Tl.sm_v 30 _ rfl (Tl.wanted_is rfl rfl ((hF 26 (by decide +kernel)).1 (by decide))) hC rfl (rn_load3 rfl ((hF 29 (by decide +kernel)).1 (by decide)) (BelW.cell hC (p := ⟨b1, 4, none⟩) hl1 c4))
          · exact Tl.sm_v 31 _ rfl (Tl.wanted_is rfl rfl ((hF 26 (by decide +kernel)).1 (by decide))) hC rfl (rn_move rfl ((hF 1 (by decide +kernel)).2 (by decide)))
          · exact Tl.sm_v 32 _ rfl (Tl.wanted_is rfl rfl ((hF 26 (by decide +kernel)).1 (by decide))) hC rfl (rn_nilCheck rfl ((hF 31 (by decide +kernel)).1 (by decide)))
          · exact Tl.sm_v 33 _ rfl (Tl.wanted_is rfl rfl ((hF 26 (by decide +kernel)).1 (by decide))) hC rfl (rn_f79_4 rfl ((hF 32 (by decide +kernel)).1 (by decide)))
          · exact Tl.sm_v 34 _ rfl (Tl.wanted_is rfl rfl ((hF 26 (by decide +kernel)).1 (by decide))) hC rfl (rn_load3 rfl ((hF 33 (by decide +kernel)).1 (by decide)) (BelW.cell hC (p := ⟨b2, 4, none⟩) hl2 d4))
          · exact Tl.sm_v 35 _ rfl (Tl.wanted_is rfl rfl ((hF 26 (by decide +kernel)).1 (by decide))) hC rfl (rn_neq3 rfl ((hF 30 (by decide +kernel)).1 (by decide)) ((hF 34 (by decide +kernel)).1 (by decide)) q2)
          · exact Tl.sm_v 36 _ rfl (Tl.wanted_none rfl) hC rfl (rn_pickF rfl ((hF 26 (by decide +kernel)).1 (by decide)) ((hF 35 (by decide +kernel)).1 (by decide)))
          · exact Tl.sm_v 37 _ rfl (Tl.wanted_none rfl) hC rfl (rn_move rfl ((hF 36 (by decide +kernel)).1 (by decide)))
          · exact Tl.sm_v 38 _ rfl (Tl.wanted_is rfl rfl ((hF 37 (by decide +kernel)).1 (by decide))) hC rfl (rn_move rfl ((hF 0 (by decide +kernel)).2 (by decide)))
          · exact Tl.sm_v 39 _ rfl (Tl.wanted_is rfl rfl ((hF 37 (by decide +kernel)).1 (by decide))) hC rfl (rn_nilCheck rfl ((hF 38 (by decide +kernel)).1 (by decide)))
          · exact Tl.sm_v 40 _ rfl (Tl.wanted_is rfl rfl ((hF 37 (by decide +kernel)).1 (by decide))) hC rfl (rn_f79_0 rfl ((hF 39 (by decide +kernel)).1 (by decide)))
          · exact Tl.sm_v 41 _ rfl (Tl.wanted_is rfl rfl ((hF 37 (by decide +kernel)).1 (by decide))) hC rfl (rn_load45 rfl ((hF 40 (by decide +kernel)).1 (by decide)) (BelW.cell hC (p := ⟨b1, 0, none⟩) hl1 c0))
          · exact Tl.sm_v 42 _ rfl (Tl.wanted_is rfl rfl ((hF 37 (by decide +kernel)).1 (by decide))) hC rfl (rn_move rfl ((hF 1 (by decide +kernel)).2 (by decide)))
          · exact Tl.sm_v 43 _ rfl (Tl.wanted_is rfl rfl ((hF 37 (by decide +kernel)).1 (by decide))) hC rfl (rn_nilCheck rfl ((hF 42 (by decide +kernel)).1 (by decide)))
          · exact Tl.sm_v 44 _ rfl (Tl.wanted_is rfl rfl ((hF 37 (by decide +kernel)).1 (by decide))) hC rfl (rn_f79_0 rfl ((hF 43 (by decide +kernel)).1 (by decide)))
          · exact Tl.sm_v 45 _ rfl (Tl.wanted_is rfl rfl ((hF 37 (by decide +kernel)).1 (by decide))) hC rfl (rn_load45 rfl ((hF 44 (by decide +kernel)).1 (by decide)) (BelW.cell hC (p := ⟨b2, 0, none⟩) hl2 d0))
          · refine Tl.sm_call 31 #[gv1, gv2] (Tl.wanted_is rfl rfl ((hF 37 (by decide +kernel)).1 (by decide))) (rn_call2 rfl rfl ((hF 41 (by decide +kernel)).1 (by decide)) ((hF 45 (by decide +kernel)).1 (by decide)) (enter31 _)) ((HSO.out W' hC).mono ?_)
            rintro e w'' ⟨rfl, b1⟩
            exact ⟨_, rfl, Below.trans hC (b1.mono hC.size), fun _ _ _ h => h, fun d hd => by cases hd; exact congrArg Value.bool q3⟩
          · exact Tl.sm_v 47 _ rfl (Tl.wanted_is rfl rfl ((hF 37 (by decide +kernel)).1 (by decide))) hC rfl (rn_not4 rfl ((hF 46 (by decide +kernel)).1 (by decide)) rfl)
          · exact Tl.sm_v 48 _ rfl (Tl.wanted_none rfl) hC rfl (rn_pickF rfl ((hF 37 (by decide +kernel)).1 (by decide)) ((hF 47 (by decide +kernel)).1 (by decide)))
          · exact Tl.sm_v 49 _ rfl (Tl.wanted_none rfl) hC rfl (rn_move rfl ((hF 48 (by decide +kernel)).1 (by decide)))
          · exact Tl.sm_skip (Tl.wanted_not rfl rfl ((hF 49 (by decide +kernel)).1 (by decide))) (fun d hd => by cases hd; trivial)
          · exact Tl.sm_skip (Tl.wanted_not rfl rfl ((hF 49 (by decide +kernel)).1 (by decide))) (fun d hd => by cases hd; trivial)
          · exact Tl.sm_skip (Tl.wanted_not rfl rfl ((hF 49 (by decide +kernel)).1 (by decide))) (fun d hd => by cases hd; trivial)
          · exact Tl.sm_skip (Tl.wanted_not rfl rfl ((hF 49 (by decide +kernel)).1 (by decide))) (fun d hd => by cases hd; trivial)
          · exact Tl.sm_skip (Tl.wanted_not rfl rfl ((hF 49 (by decide +kernel)).1 (by decide))) (fun d hd => by cases hd; trivial)
          · exact Tl.sm_skip (Tl.wanted_not rfl rfl ((hF 49 (by decide +kernel)).1 (by decide))) (fun d hd => by cases hd; trivial)
          · exact Tl.sm_skip (Tl.wanted_not rfl rfl ((hF 49 (by decide +kernel)).1 (by decide))) (fun d hd => by cases hd; trivial)
          · exact Tl.sm_skip (Tl.wanted_not rfl rfl ((hF 49 (by decide +kernel)).1 (by decide))) (fun d hd => by cases hd; trivial)
          · exact Tl.sm_skip (Tl.wanted_not rfl rfl ((hF 49 (by decide +kernel)).1 (by decide))) (fun d hd => by cases hd; trivial)
          · exact Tl.sm_skip (Tl.wanted_not rfl rfl ((hF 49 (by decide +kernel)).1 (by decide))) (fun d hd => by cases hd; trivial)
          · exact Tl.sm_skip (Tl.wanted_not rfl rfl ((hF 49 (by decide +kernel)).1 (by decide))) (fun d hd => by cases hd; trivial)
          · exact Tl.sm_v 61 _ rfl (Tl.wanted_none rfl) hC rfl (rn_pickT rfl ((hF 49 (by decide +kernel)).1 (by decide)) rfl)
          intro v W2 hw2 hv
          have v61 : v 61 = .bool true := hv 61 (by decide)
          clear hv
          simp only [Tl.fill, List.drop_succ_cons, List.drop_zero, wpList]
          simp only [Act.put, List.setIfInBounds_toArray, List.set_cons_succ, List.set_cons_zero, v61]
          have HB2 := hid hw2
          clear hw2 v61 HSO HW1 HW2 HI1 HI2 c0 c1 c2 c3 c4 d0 d1 d2 d3 d4 hl1 hl2
          go_wp2_with fail
          go_ret
          exact ⟨by rw [HSM.out, HE.out]; simp, HB2.out⟩
      · have q2 : decide (less1 r.room = less1 t.room) = !true := by rw [less1_inj]; exact decide_eq_false hm
        have HE := hid (show decide (r.room = t.room) = false from decide_eq_false hm)
        clear hd ha hm
        clear hw1 hw2
        go_enter Try.func27, Try.ntmps27
        go_wp2_with fail
        refine Tl.wp_mix_lit (by kernel_rfl) 56 [6, 7, 8, 9, 10, 11, 12, 13, 14, 15, 16, 17, 18, 19, 20, 21, 22, 23, 24, 25, 26, 27, 28, 29, 30, 31, 32, 33, 34, 35, 36, 37, 38, 39, 40, 41, 42, 43, 44, 45, 46, 47, 48, 49, 50, 51, 52, 53, 54, 55, 56, 57, 58, 59, 60, 61] 86 rfl (by kernel_rfl) (BelW w) (smF2 b1 b2 r t gv1 gv2 wv1 wv2 x) ((Below.refl _ _).drew)
          ⟨fun a' W' hC hF => ?_, fun a' W' hC hF => ?_, fun a' W' hC hF => ?_, fun a' W' hC hF => ?_, fun a' W' hC hF => ?_, fun a' W' hC hF => ?_, fun a' W' hC hF => ?_, fun a' W' hC hF => ?_, fun a' W' hC hF => ?_, fun a' W' hC hF => ?_, fun a' W' hC hF => ?_, fun a' W' hC hF => ?_, fun a' W' hC hF => ?_, fun a' W' hC hF => ?_, fun a' W' hC hF => ?_, fun a' W' hC hF => ?_, fun a' W' hC hF => ?_, fun a' W' hC hF => ?_, fun a' W' hC hF => ?_, fun a' W' hC hF => ?_, fun a' W' hC hF => ?_, fun a' W' hC hF => ?_, fun a' W' hC hF => ?_, fun a' W' hC hF => ?_, fun a' W' hC hF => ?_, fun a' W' hC hF => ?_, fun a' W' hC hF => ?_, fun a' W' hC hF => ?_, fun a' W' hC hF => ?_, fun a' W' hC hF => ?_, fun a' W' hC hF => ?_, fun a' W' hC hF => ?_, fun a' W' hC hF => ?_, fun a' W' hC hF => ?_, fun a' W' hC hF => ?_, fun a' W' hC hF => ?_, fun a' W' hC hF => ?_, fun a' W' hC hF => ?_, fun a' W' hC hF => ?_, fun a' W' hC hF => ?_, fun a' W' hC hF => ?_, fun a' W' hC hF => ?_, fun a' W' hC hF => ?_, fun a' W' hC hF => ?_, fun a' W' hC hF => ?_, fun a' W' hC hF => ?_, fun a' W' hC hF => ?_, fun a' W' hC hF => ?_, fun a' W' hC hF => ?_, fun a' W' hC hF => ?_, fun a' W' hC hF => ?_, fun a' W' hC hF => ?_, fun a' W' hC hF => ?_, fun a' W' hC hF => ?_, fun a' W' hC hF => ?_, fun a' W' hC hF => ?_, trivial⟩ ?_
        · exact Tl.sm_v 6 _ rfl (Tl.wanted_none rfl) hC rfl (rn_move rfl ((hF 0 (by decide +kernel)).2 (by decide)))
        · exact Tl.sm_v 7 _ rfl (Tl.wanted_none rfl) hC rfl (rn_nilCheck rfl ((hF 6 (by decide +kernel)).1 (by decide)))
        · exact Tl.sm_v 8 _ rfl (Tl.wanted_none rfl) hC rfl (rn_f79_2 rfl ((hF 7 (by decide +kernel)).1 (by decide)))
        · exact Tl.sm_v 9 _ rfl (Tl.wanted_none rfl) hC rfl (rn_load4 rfl ((hF 8 (by decide +kernel)).1 (by decide)) (BelW.cell hC (p := ⟨b1, 2, none⟩) hl1 c2))
        · exact Tl.sm_v 10 _ rfl (Tl.wanted_none rfl) hC rfl (rn_move rfl ((hF 1 (by decide +kernel)).2 (by decide)))
        · exact Tl.sm_v 11 _ rfl (Tl.wanted_none rfl) hC rfl (rn_nilCheck rfl ((hF 10 (by decide +kernel)).1 (by decide)))
        · exact Tl.sm_v 12 _ rfl (Tl.wanted_none rfl) hC rfl (rn_f79_2 rfl ((hF 11 (by decide +kernel)).1 (by decide)))
        · exact Tl.sm_v 13 _ rfl (Tl.wanted_none rfl) hC rfl (rn_load4 rfl ((hF 12 (by decide +kernel)).1 (by decide)) (BelW.cell hC (p := ⟨b2, 2, none⟩) hl2 d2))
        · exact Tl.sm_v 14 _ rfl (Tl.wanted_none rfl) hC rfl (rn_neq4 rfl ((hF 9 (by decide +kernel)).1 (by decide)) ((hF 13 (by decide +kernel)).1 (by decide)) q0)
        · exact Tl.sm_v 15 _ rfl (Tl.wanted_none rfl) hC rfl (rn_move rfl ((hF 14 (by decide +kernel)).1 (by decide)))
        · exact Tl.sm_v 16 _ rfl (Tl.wanted_is rfl rfl ((hF 15 (by decide +kernel)).1 (by decide))) hC rfl (rn_move rfl ((hF 0 (by decide +kernel)).2 (by decide)))
        · exact Tl.sm_v 17 _ rfl (Tl.wanted_is rfl rfl ((hF 15 (by decide +kernel)).1 (by decide))) hC rfl (rn_nilCheck rfl ((hF 16 (by decide +kernel)).1 (by decide)))
        · exact Tl.sm_v 18 _ rfl (Tl.wanted_is rfl rfl ((hF 15 (by decide +kernel)).1 (by decide))) hC rfl (rn_f79_3 rfl ((hF 17 (by decide +kernel)).1 (by decide)))
        · exact Tl.sm_v 19 _ rfl (Tl.wanted_is rfl rfl ((hF 15 (by decide +kernel)).1 (by decide))) hC rfl (rn_load3 rfl ((hF 18 (by decide +kernel)).1 (by decide)) (BelW.cell hC (p := ⟨b1, 3, none⟩) hl1 c3))
        · exact Tl.sm_v 20 _ rfl (Tl.wanted_is rfl rfl ((hF 15 (by decide +kernel)).1 (by decide))) hC rfl (rn_move rfl ((hF 1 (by decide +kernel)).2 (by decide)))
        · exact Tl.sm_v 21 _ rfl (Tl.wanted_is rfl rfl ((hF 15 (by decide +kernel)).1 (by decide))) hC rfl (rn_nilCheck rfl ((hF 20 (by decide +kernel)).1 (by decide)))
        · exact Tl.sm_v 22 _ rfl (Tl.wanted_is rfl rfl ((hF 15 (by decide +kernel)).1 (by decide))) hC rfl (rn_f79_3 rfl ((hF 21 (by decide +kernel)).1 (by decide)))
        · exact Tl.sm_v 23 _ rfl (Tl.wanted_is rfl rfl ((hF 15 (by decide +kernel)).1 (by decide))) hC rfl (rn_load3 rfl ((hF 22 (by decide +kernel)).1 (by decide)) (BelW.cell hC (p := ⟨b2, 3, none⟩) hl2 d3))
        · exact Tl.sm_v 24 _ rfl (Tl.wanted_is rfl rfl ((hF 15 (by decide +kernel)).1 (by decide))) hC rfl (rn_neq3 rfl ((hF 19 (by decide +kernel)).1 (by decide)) ((hF 23 (by decide +kernel)).1 (by decide)) q1)
        · exact Tl.sm_v 25 _ rfl (Tl.wanted_none rfl) hC rfl (rn_pickF rfl ((hF 15 (by decide +kernel)).1 (by decide)) ((hF 24 (by decide +kernel)).1 (by decide)))
        · exact Tl.sm_v 26 _ rfl (Tl.wanted_none rfl) hC rfl (rn_move rfl ((hF 25 (by decide +kernel)).1 (by decide)))
        · exact Tl.sm_v 27 _ rfl (Tl.wanted_is rfl rfl ((hF 26 (by decide +kernel)).1 (by decide))) hC rfl (rn_move rfl ((hF 0 (by decide +kernel)).2 (by decide)))
        · exact Tl.sm_v 28 _ rfl (Tl.wanted_is rfl rfl ((hF 26 (by decide +kernel)).1 (by decide))) hC rfl (rn_nilCheck rfl ((hF 27 (by decide +kernel)).1 (by decide)))
        · exact Tl.sm_v 29 _ rfl (Tl.wanted_is rfl rfl ((hF 26 (by decide +kernel)).1 (by decide))) hC rfl (rn_f79_4 rfl ((hF 28 (by decide +kernel)).1 (by decide)))
        · exact Tl.sm_v 30 _ rfl (Tl.wanted_is rfl rfl ((hF 26 (by decide +kernel)).1 (by decide))) hC rfl (rn_load3 rfl ((hF 29 (by decide +kernel)).1 (by decide)) (BelW.cell hC (p := ⟨b1, 4, none⟩) hl1 c4))
        · exact Tl.sm_v 31 _ rfl (Tl.wanted_is rfl rfl ((hF 26 (by decide +kernel)).1 (by decide))) hC rfl (rn_move rfl ((hF 1 (by decide +kernel)).2 (by decide)))
        · exact Tl.sm_v 32 _ rfl (Tl.wanted_is rfl rfl ((hF 26 (by decide +kernel)).1 (by decide))) hC rfl (rn_nilCheck rfl ((hF 31 (by decide +kernel)).1 (by decide)))
        · exact Tl.sm_v 33 _ rfl (Tl.wanted_is rfl rfl ((hF 26 (by decide +kernel)).1 (by decide))) hC rfl (rn_f79_4 rfl ((hF 32 (by decide +kernel)).1 (by decide)))
        · exact Tl.sm_v 34 _ rfl (Tl.wanted_is rfl rfl ((hF 26 (by decide +kernel)).1 (by decide))) hC rfl (rn_load3 rfl ((hF 33 (by decide +kernel)).1 (by decide)) (BelW.cell hC (p := ⟨b2, 4, none⟩) hl2 d4))
        · exact Tl.sm_v 35 _ rfl (Tl.wanted_is rfl rfl ((hF 26 (by decide +kernel)).1 (by decide))) hC rfl (rn_neq3 rfl ((hF 30 (by decide +kernel)).1 (by decide)) ((hF 34 (by decide +kernel)).1 (by decide)) q2)
        · exact Tl.sm_v 36 _ rfl (Tl.wanted_none rfl) hC rfl (rn_pickF rfl ((hF 26 (by decide +kernel)).1 (by decide)) ((hF 35 (by decide +kernel)).1 (by decide)))
        · exact Tl.sm_v 37 _ rfl (Tl.wanted_none rfl) hC rfl (rn_move rfl ((hF 36 (by decide +kernel)).1 (by decide)))
        · exact Tl.sm_skip (Tl.wanted_not rfl rfl ((hF 37 (by decide +kernel)).1 (by decide))) (fun d hd => by cases hd; trivial)
        · exact Tl.sm_skip (Tl.wanted_not rfl rfl ((hF 37 (by decide +kernel)).1 (by decide))) (fun d hd => by cases hd; trivial)
        · exact Tl.sm_skip (Tl.wanted_not rfl rfl ((hF 37 (by decide +kernel)).1 (by decide))) (fun d hd => by cases hd; trivial)
        · exact Tl.sm_skip (Tl.wanted_not rfl rfl ((hF 37 (by decide +kernel)).1 (by decide))) (fun d hd => by cases hd; trivial)
        · exact Tl.sm_skip (Tl.wanted_not rfl rfl ((hF 37 (by decide +kernel)).1 (by decide))) (fun d hd => by cases hd; trivial)
        · exact Tl.sm_skip (Tl.wanted_not rfl rfl ((hF 37 (by decide +kernel)).1 (by decide))) (fun d hd => by cases hd; trivial)
        · exact Tl.sm_skip (Tl.wanted_not rfl rfl ((hF 37 (by decide +kernel)).1 (by decide))) (fun d hd => by cases hd; trivial)
        · exact Tl.sm_skip (Tl.wanted_not rfl rfl ((hF 37 (by decide +kernel)).1 (by decide))) (fun d hd => by cases hd; trivial)
        · exact Tl.sm_skip (Tl.wanted_not rfl rfl ((hF 37 (by decide +kernel)).1 (by decide))) (fun d hd => by cases hd; trivial)
        · exact Tl.sm_skip (Tl.wanted_not rfl rfl ((hF 37 (by decide +kernel)).1 (by decide))) (fun d hd => by cases hd; trivial)
        · exact Tl.sm_v 48 _ rfl (Tl.wanted_none rfl) hC rfl (rn_pickT rfl ((hF 37 (by decide +kernel)).1 (by decide)) rfl)
        · exact Tl.sm_v 49 _ rfl (Tl.wanted_none rfl) hC rfl (rn_move rfl ((hF 48 (by decide +kernel)).1 (by decide)))
        · exact Tl.sm_skip (Tl.wanted_not rfl rfl ((hF 49 (by decide +kernel)).1 (by decide))) (fun d hd => by cases hd; trivial)
        · exact Tl.sm_skip (Tl.wanted_not rfl rfl ((hF 49 (by decide +kernel)).1 (by decide))) (fun d hd => by cases hd; trivial)
        · exact Tl.sm_skip (Tl.wanted_not rfl rfl ((hF 49 (by decide +kernel)).1 (by decide))) (fun d hd => by cases hd; trivial)
        · exact Tl.sm_skip (Tl.wanted_not rfl rfl ((hF 49 (by decide +kernel)).1 (by decide))) (fun d hd => by cases hd; trivial)
        · exact Tl.sm_skip (Tl.wanted_not rfl rfl ((hF 49 (by decide +kernel)).1 (by decide))) (fun d hd => by cases hd; trivial)
        · exact Tl.sm_skip (Tl.wanted_not rfl rfl ((hF 49 (by decide +kernel)).1 (by decide))) (fun d hd => by cases hd; trivial)
        · exact Tl.sm_skip (Tl.wanted_not rfl rfl ((hF 49 (by decide +kernel)).1 (by decide))) (fun d hd => by cases hd; trivial)
        · exact Tl.sm_skip (Tl.wanted_not rfl rfl ((hF 49 (by decide +kernel)).1 (by decide))) (fun d hd => by cases hd; trivial)
        · exact Tl.sm_skip (Tl.wanted_not rfl rfl ((hF 49 (by decide +kernel)).1 (by decide))) (fun d hd => by cases hd; trivial)
        · exact Tl.sm_skip (Tl.wanted_not rfl rfl ((hF 49 (by decide +kernel)).1 (by decide))) (fun d hd => by cases hd; trivial)
        · exact Tl.sm_skip (Tl.wanted_not rfl rfl ((hF 49 (by decide +kernel)).1 (by decide))) (fun d hd => by cases hd; trivial)
        · exact Tl.sm_v 61 _ rfl (Tl.wanted_none rfl) hC rfl (rn_pickT rfl ((hF 49 (by decide +kernel)).1 (by decide)) rfl)
        intro v W2 hw2 hv
        have v61 : v 61 = .bool true := hv 61 (by decide)
        clear hv
        simp only [Tl.fill, List.drop_succ_cons, List.drop_zero, wpList]
        simp only [Act.put, List.setIfInBounds_toArray, List.set_cons_succ, List.set_cons_zero, v61]
        have HB2 := hid hw2
        clear hw2 v61 HSO HW1 HW2 HI1 HI2 c0 c1 c2 c3 c4 d0 d1 d2 d3 d4 hl1 hl2
        go_wp2_with fail
        go_ret
        exact ⟨by rw [HSM.out, HE.out]; simp, HB2.out⟩
    · have q1 : decide (less1 r.ahead = less1 t.ahead) = !true := by rw [less1_inj]; exact decide_eq_false ha
      have HE := hid (show decide (r.ahead = t.ahead) = false from decide_eq_false ha)
      clear hd ha
      clear hw1 hw2
      go_enter Try.func27, Try.ntmps27
      go_wp2_with fail
      refine Tl.wp_mix_lit (by kernel_rfl) 56 [6, 7, 8, 9, 10, 11, 12, 13, 14, 15, 16, 17, 18, 19, 20, 21, 22, 23, 24, 25, 26, 27, 28, 29, 30, 31, 32, 33, 34, 35, 36, 37, 38, 39, 40, 41, 42, 43, 44, 45, 46, 47, 48, 49, 50, 51, 52, 53, 54, 55, 56, 57, 58, 59, 60, 61] 86 rfl (by kernel_rfl) (BelW w) (smF1 b1 b2 r t gv1 gv2 wv1 wv2 x) ((Below.refl _ _).drew)
        ⟨fun a' W' hC hF => ?_, fun a' W' hC hF => ?_, fun a' W' hC hF => ?_, fun a' W' hC hF => ?_, fun a' W' hC hF => ?_, fun a' W' hC hF => ?_, fun a' W' hC hF => ?_, fun a' W' hC hF => ?_, fun a' W' hC hF => ?_, fun a' W' hC hF => ?_, fun a' W' hC hF => ?_, fun a' W' hC hF => ?_, fun a' W' hC hF => ?_, fun a' W' hC hF => ?_, fun a' W' hC hF => ?_, fun a' W' hC hF => ?_, fun a' W' hC hF => ?_, fun a' W' hC hF => ?_, fun a' W' hC hF => ?_, fun a' W' hC hF => ?_, fun a' W' hC hF => ?_, fun a' W' hC hF => ?_, fun a' W' hC hF => ?_, fun a' W' hC hF => ?_, fun a' W' hC hF => ?_, fun a' W' hC hF => ?_, fun a' W' hC hF => ?_, fun a' W' hC hF => ?_, fun a' W' hC hF => ?_, fun a' W' hC hF => ?_, fun a' W' hC hF => ?_, fun a' W' hC hF => ?_, fun a' W' hC hF => ?_, fun a' W' hC hF => ?_, fun a' W' hC hF => ?_, fun a' W' hC hF => ?_, fun a' W' hC hF => ?_, fun a' W' hC hF => ?_, fun a' W' hC hF => ?_, fun a' W' hC hF => ?_, fun a' W' hC hF => ?_, fun a' W' hC hF => ?_, fun a' W' hC hF => ?_, fun a' W' hC hF => ?_, fun a' W' hC hF => ?_, fun a' W' hC hF => ?_, fun a' W' hC hF => ?_, fun a' W' hC hF => ?_, fun a' W' hC hF => ?_, fun a' W' hC hF => ?_, fun a' W' hC hF => ?_, fun a' W' hC hF => ?_, fun a' W' hC hF => ?_, fun a' W' hC hF => ?_, fun a' W' hC hF => ?_, fun a' W' hC hF => ?_, trivial⟩ ?_
      · exact Tl.sm_v 6 _ rfl (Tl.wanted_none rfl) hC rfl (rn_move rfl ((hF 0 (by decide +kernel)).2 (by decide)))
      · exact Tl.sm_v 7 _ rfl (Tl.wanted_none rfl) hC rfl (rn_nilCheck rfl ((hF 6 (by decide +kernel)).1 (by decide)))
      · exact Tl.sm_v 8 _ rfl (Tl.wanted_none rfl) hC rfl (rn_f79_2 rfl ((hF 7 (by decide +kernel)).1 (by decide)))
      · exact Tl.sm_v 9 _ rfl (Tl.wanted_none rfl) hC rfl (rn_load4 rfl ((hF 8 (by decide +kernel)).1 (by decide)) (BelW.cell hC (p := ⟨b1, 2, none⟩) hl1 c2))
      · exact Tl.sm_v 10 _ rfl (Tl.wanted_none rfl) hC rfl (rn_move rfl ((hF 1 (by decide +kernel)).2 (by decide)))
      · exact Tl.sm_v 11 _ rfl (Tl.wanted_none rfl) hC rfl (rn_nilCheck rfl ((hF 10 (by decide +kernel)).1 (by decide)))
      · exact Tl.sm_v 12 _ rfl (Tl.wanted_none rfl) hC rfl (rn_f79_2 rfl ((hF 11 (by decide +kernel)).1 (by decide)))
      · exact Tl.sm_v 13 _ rfl (Tl.wanted_none rfl) hC rfl (rn_load4 rfl ((hF 12 (by decide +kernel)).1 (by decide)) (BelW.cell hC (p := ⟨b2, 2, none⟩) hl2 d2))
      · exact Tl.sm_v 14 _ rfl (Tl.wanted_none rfl) hC rfl (rn_neq4 rfl ((hF 9 (by decide +kernel)).1 (by decide)) ((hF 13 (by decide +kernel)).1 (by decide)) q0)
      · exact Tl.sm_v 15 _ rfl (Tl.wanted_none rfl) hC rfl (rn_move rfl ((hF 14 (by decide +kernel)).1 (by decide)))
      · exact Tl.sm_v 16 _ rfl (Tl.wanted_is rfl rfl ((hF 15 (by decide +kernel)).1 (by decide))) hC rfl (rn_move rfl ((hF 0 (by decide +kernel)).2 (by decide)))
      · exact Tl.sm_v 17 _ rfl (Tl.wanted_is rfl rfl ((hF 15 (by decide +kernel)).1 (by decide))) hC rfl (rn_nilCheck rfl ((hF 16 (by decide +kernel)).1 (by decide)))
      · exact Tl.sm_v 18 _ rfl (Tl.wanted_is rfl rfl ((hF 15 (by decide +kernel)).1 (by decide))) hC rfl (rn_f79_3 rfl ((hF 17 (by decide +kernel)).1 (by decide)))
      · exact Tl.sm_v 19 _ rfl (Tl.wanted_is rfl rfl ((hF 15 (by decide +kernel)).1 (by decide))) hC rfl (rn_load3 rfl ((hF 18 (by decide +kernel)).1 (by decide)) (BelW.cell hC (p := ⟨b1, 3, none⟩) hl1 c3))
      · exact Tl.sm_v 20 _ rfl (Tl.wanted_is rfl rfl ((hF 15 (by decide +kernel)).1 (by decide))) hC rfl (rn_move rfl ((hF 1 (by decide +kernel)).2 (by decide)))
      · exact Tl.sm_v 21 _ rfl (Tl.wanted_is rfl rfl ((hF 15 (by decide +kernel)).1 (by decide))) hC rfl (rn_nilCheck rfl ((hF 20 (by decide +kernel)).1 (by decide)))
      · exact Tl.sm_v 22 _ rfl (Tl.wanted_is rfl rfl ((hF 15 (by decide +kernel)).1 (by decide))) hC rfl (rn_f79_3 rfl ((hF 21 (by decide +kernel)).1 (by decide)))
      · exact Tl.sm_v 23 _ rfl (Tl.wanted_is rfl rfl ((hF 15 (by decide +kernel)).1 (by decide))) hC rfl (rn_load3 rfl ((hF 22 (by decide +kernel)).1 (by decide)) (BelW.cell hC (p := ⟨b2, 3, none⟩) hl2 d3))
      · exact Tl.sm_v 24 _ rfl (Tl.wanted_is rfl rfl ((hF 15 (by decide +kernel)).1 (by decide))) hC rfl (rn_neq3 rfl ((hF 19 (by decide +kernel)).1 (by decide)) ((hF 23 (by decide +kernel)).1 (by decide)) q1)
      · exact Tl.sm_v 25 _ rfl (Tl.wanted_none rfl) hC rfl (rn_pickF rfl ((hF 15 (by decide +kernel)).1 (by decide)) ((hF 24 (by decide +kernel)).1 (by decide)))
      · exact Tl.sm_v 26 _ rfl (Tl.wanted_none rfl) hC rfl (rn_move rfl ((hF 25 (by decide +kernel)).1 (by decide)))
      · exact Tl.sm_skip (Tl.wanted_not rfl rfl ((hF 26 (by decide +kernel)).1 (by decide))) (fun d hd => by cases hd; trivial)
      · exact Tl.sm_skip (Tl.wanted_not rfl rfl ((hF 26 (by decide +kernel)).1 (by decide))) (fun d hd => by cases hd; trivial)
      · exact Tl.sm_skip (Tl.wanted_not rfl rfl ((hF 26 (by decide +kernel)).1 (by decide))) (fun d hd => by cases hd; trivial)
      · exact Tl.sm_skip (Tl.wanted_not rfl rfl ((hF 26 (by decide +kernel)).1 (by decide))) (fun d hd => by cases hd; trivial)
      · exact Tl.sm_skip (Tl.wanted_not rfl rfl ((hF 26 (by decide +kernel)).1 (by decide))) (fun d hd => by cases hd; trivial)
      · exact Tl.sm_skip (Tl.wanted_not rfl rfl ((hF 26 (by decide +kernel)).1 (by decide))) (fun d hd => by cases hd; trivial)
      · exact Tl.sm_skip (Tl.wanted_not rfl rfl ((hF 26 (by decide +kernel)).1 (by decide))) (fun d hd => by cases hd; trivial)
      · exact Tl.sm_skip (Tl.wanted_not rfl rfl ((hF 26 (by decide +kernel)).1 (by decide))) (fun d hd => by cases hd; trivial)
      · exact Tl.sm_skip (Tl.wanted_not rfl rfl ((hF 26 (by decide +kernel)).1 (by decide))) (fun d hd => by cases hd; trivial)
      · exact Tl.sm_v 36 _ rfl (Tl.wanted_none rfl) hC rfl (rn_pickT rfl ((hF 26 (by decide +kernel)).1 (by decide)) rfl)
      · exact Tl.sm_v 37 _ rfl (Tl.wanted_none rfl) hC rfl (rn_move rfl ((hF 36 (by decide +kernel)).1 (by decide)))
      · exact Tl.sm_skip (Tl.wanted_not rfl rfl ((hF 37 (by decide +kernel)).1 (by decide))) (fun d hd => by cases hd; trivial)
      · exact Tl.sm_skip (Tl.wanted_not rfl rfl ((hF 37 (by decide +kernel)).1 (by decide))) (fun d hd => by cases hd; trivial)
      · exact Tl.sm_skip (Tl.wanted_not rfl rfl ((hF 37 (by decide +kernel)).1 (by decide))) (fun d hd => by cases hd; trivial)
      · exact Tl.sm_skip (Tl.wanted_not rfl rfl ((hF 37 (by decide +kernel)).1 (by decide))) (fun d hd => by cases hd; trivial)
      · exact Tl.sm_skip (Tl.wanted_not rfl rfl ((hF 37 (by decide +kernel)).1 (by decide))) (fun d hd => by cases hd; trivial)
      · exact Tl.sm_skip (Tl.wanted_not rfl rfl ((hF 37 (by decide +kernel)).1 (by decide))) (fun d hd => by cases hd; trivial)
      · exact Tl.sm_skip (Tl.wanted_not rfl rfl ((hF 37 (by decide +kernel)).1 (by decide))) (fun d hd => by cases hd; trivial)
      · exact Tl.sm_skip (Tl.wanted_not rfl rfl ((hF 37 (by decide +kernel)).1 (by decide))) (fun d hd => by cases hd; trivial)
      · exact Tl.sm_skip (Tl.wanted_not rfl rfl ((hF 37 (by decide +kernel)).1 (by decide))) (fun d hd => by cases hd; trivial)
      · exact Tl.sm_skip (Tl.wanted_not rfl rfl ((hF 37 (by decide +kernel)).1 (by decide))) (fun d hd => by cases hd; trivial)
      · exact Tl.sm_v 48 _ rfl (Tl.wanted_none rfl) hC rfl (rn_pickT rfl ((hF 37 (by decide +kernel)).1 (by decide)) rfl)
      · exact Tl.sm_v 49 _ rfl (Tl.wanted_none rfl) hC rfl (rn_move rfl ((hF 48 (by decide +kernel)).1 (by decide)))
      · exact Tl.sm_skip (Tl.wanted_not rfl rfl ((hF 49 (by decide +kernel)).1 (by decide))) (fun d hd => by cases hd; trivial)
      · exact Tl.sm_skip (Tl.wanted_not rfl rfl ((hF 49 (by decide +kernel)).1 (by decide))) (fun d hd => by cases hd; trivial)
      · exact Tl.sm_skip (Tl.wanted_not rfl rfl ((hF 49 (by decide +kernel)).1 (by decide))) (fun d hd => by cases hd; trivial)
      · exact Tl.sm_skip (Tl.wanted_not rfl rfl ((hF 49 (by decide +kernel)).1 (by decide))) (fun d hd => by cases hd; trivial)
      · exact Tl.sm_skip (Tl.wanted_not rfl rfl ((hF 49 (by decide +kernel)).1 (by decide))) (fun d hd => by cases hd; trivial)
      · exact Tl.sm_skip (Tl.wanted_not rfl rfl ((hF 49 (by decide +kernel)).1 (by decide))) (fun d hd => by cases hd; trivial)
      · exact Tl.sm_skip (Tl.wanted_not rfl rfl ((hF 49 (by decide +kernel)).1 (by decide))) (fun d hd => by cases hd; trivial)
      · exact Tl.sm_skip (Tl.wanted_not rfl rfl ((hF 49 (by decide +kernel)).1 (by decide))) (fun d hd => by cases hd; trivial)
      · exact Tl.sm_skip (Tl.wanted_not rfl rfl ((hF 49 (by decide +kernel)).1 (by decide))) (fun d hd => by cases hd; trivial)
      · exact Tl.sm_skip (Tl.wanted_not rfl rfl ((hF 49 (by decide +kernel)).1 (by decide))) (fun d hd => by cases hd; trivial)
      · exact Tl.sm_skip (Tl.wanted_not rfl rfl ((hF 49 (by decide +kernel)).1 (by decide))) (fun d hd => by cases hd; trivial)
      · exact Tl.sm_v 61 _ rfl (Tl.wanted_none rfl) hC rfl (rn_pickT rfl ((hF 49 (by decide +kernel)).1 (by decide)) rfl)
      intro v W2 hw2 hv
      have v61 : v 61 = .bool true := hv 61 (by decide)
      clear hv
      simp only [Tl.fill, List.drop_succ_cons, List.drop_zero, wpList]
      simp only [Act.put, List.setIfInBounds_toArray, List.set_cons_succ, List.set_cons_zero, v61]
      have HB2 := hid hw2
      clear hw2 v61 HSO HW1 HW2 HI1 HI2 c0 c1 c2 c3 c4 d0 d1 d2 d3 d4 hl1 hl2
      go_wp2_with fail
      go_ret
      exact ⟨by rw [HSM.out, HE.out]; simp, HB2.out⟩
  · have q0 : decide (r.down = t.down) = !true := decide_eq_false hd
    have HE := hid (show decide (r.down = t.down) = false from decide_eq_false hd)
    clear hd
    clear hw1 hw2
    go_enter Try.func27, Try.ntmps27
    go_wp2_with fail
    refine Tl.wp_mix_lit (by kernel_rfl) 56 [6, 7, 8, 9, 10, 11, 12, 13, 14, 15, 16, 17, 18, 19, 20, 21, 22, 23, 24, 25, 26, 27, 28, 29, 30, 31, 32, 33, 34, 35, 36, 37, 38, 39, 40, 41, 42, 43, 44, 45, 46, 47, 48, 49, 50, 51, 52, 53, 54, 55, 56, 57, 58, 59, 60, 61] 86 rfl (by kernel_rfl) (BelW w) (smF0 b1 b2 r t gv1 gv2 wv1 wv2 x) ((Below.refl _ _).drew)
      ⟨fun a' W' hC hF => ?_, fun a' W' hC hF => ?_, fun a' W' hC hF => ?_, fun a' W' hC hF => ?_, fun a' W' hC hF => ?_, fun a' W' hC hF => ?_, fun a' W' hC hF => ?_, fun a' W' hC hF => ?_, fun a' W' hC hF => ?_, fun a' W' hC hF => ?_, fun a' W' hC hF => ?_, fun a' W' hC hF => ?_, fun a' W' hC hF => ?_, fun a' W' hC hF => ?_, fun a' W' hC hF => ?_, fun a' W' hC hF => ?_, fun a' W' hC hF => ?_, fun a' W' hC hF => ?_, fun a' W' hC hF => ?_, fun a' W' hC hF => ?_, fun a' W' hC hF => ?_, fun a' W' hC hF => ?_, fun a' W' hC hF => ?_, fun a' W' hC hF => ?_, fun a' W' hC hF => ?_, fun a' W' hC hF => ?_, fun a' W' hC hF => ?_, fun a' W' hC hF => ?_, fun a' W' hC hF => ?_, fun a' W' hC hF => ?_, fun a' W' hC hF => ?_, fun a' W' hC hF => ?_, fun a' W' hC hF => ?_, fun a' W' hC hF => ?_, fun a' W' hC hF => ?_, fun a' W' hC hF => ?_, fun a' W' hC hF => ?_, fun a' W' hC hF => ?_, fun a' W' hC hF => ?_, fun a' W' hC hF => ?_, fun a' W' hC hF => ?_, fun a' W' hC hF => ?_, fun a' W' hC hF => ?_, fun a' W' hC hF => ?_, fun a' W' hC hF => ?_, fun a' W' hC hF => ?_, fun a' W' hC hF => ?_, fun a' W' hC hF => ?_, fun a' W' hC hF => ?_, fun a' W' hC hF => ?_, fun a' W' hC hF => ?_, fun a' W' hC hF => ?_, fun a' W' hC hF => ?_, fun a' W' hC hF => ?_, fun a' W' hC hF => ?_, fun a' W' hC hF => ?_, trivial⟩ ?_
    · exact Tl.sm_v 6 _ rfl (Tl.wanted_none rfl) hC rfl (rn_move rfl ((hF 0 (by decide +kernel)).2 (by decide)))
    · exact Tl.sm_v 7 _ rfl (Tl.wanted_none rfl) hC rfl (rn_nilCheck rfl ((hF 6 (by decide +kernel)).1 (by decide)))
    · exact Tl.sm_v 8 _ rfl (Tl.wanted_none rfl) hC rfl (rn_f79_2 rfl ((hF 7 (by decide +kernel)).1 (by decide)))
    · exact Tl.sm_v 9 _ rfl (Tl.wanted_none rfl) hC rfl (rn_load4 rfl ((hF 8 (by decide +kernel)).1 (by decide)) (BelW.cell hC (p := ⟨b1, 2, none⟩) hl1 c2))
    · exact Tl.sm_v 10 _ rfl (Tl.wanted_none rfl) hC rfl (rn_move rfl ((hF 1 (by decide +kernel)).2 (by decide)))
    · exact Tl.sm_v 11 _ rfl (Tl.wanted_none rfl) hC rfl (rn_nilCheck rfl ((hF 10 (by decide +kernel)).1 (by decide)))
    · exact Tl.sm_v 12 _ rfl (Tl.wanted_none rfl) hC rfl (rn_f79_2 rfl ((hF 11 (by decide +kernel)).1 (by decide)))
    · exact Tl.sm_v 13 _ rfl (Tl.wanted_none rfl) hC rfl (rn_load4 rfl ((hF 12 (by decide +kernel)).1 (by decide)) (BelW.cell hC (p := ⟨b2, 2, none⟩) hl2 d2))
    · exact Tl.sm_v 14 _ rfl (Tl.wanted_none rfl) hC rfl (rn_neq4 rfl ((hF 9 (by decide +kernel)).1 (by decide)) ((hF 13 (by decide +kernel)).1 (by decide)) q0)
    · exact Tl.sm_v 15 _ rfl (Tl.wanted_none rfl) hC rfl (rn_move rfl ((hF 14 (by decide +kernel)).1 (by decide)))
    · exact Tl.sm_skip (Tl.wanted_not rfl rfl ((hF 15 (by decide +kernel)).1 (by decide))) (fun d hd => by cases hd; trivial)
    · exact Tl.sm_skip (Tl.wanted_not rfl rfl ((hF 15 (by decide +kernel)).1 (by decide))) (fun d hd => by cases hd; trivial)
    · exact Tl.sm_skip (Tl.wanted_not rfl rfl ((hF 15 (by decide +kernel)).1 (by decide))) (fun d hd => by cases hd; trivial)
    · exact Tl.sm_skip (Tl.wanted_not rfl rfl ((hF 15 (by decide +kernel)).1 (by decide))) (fun d hd => by cases hd; trivial)
    · exact Tl.sm_skip (Tl.wanted_not rfl rfl ((hF 15 (by decide +kernel)).1 (by decide))) (fun d hd => by cases hd; trivial)
    · exact Tl.sm_skip (Tl.wanted_not rfl rfl ((hF 15 (by decide +kernel)).1 (by decide))) (fun d hd => by cases hd; trivial)
    · exact Tl.sm_skip (Tl.wanted_not rfl rfl ((hF 15 (by decide +kernel)).1 (by decide))) (fun d hd => by cases hd; trivial)
    · exact Tl.sm_skip (Tl.wanted_not rfl rfl ((hF 15 (by decide +kernel)).1 (by decide))) (fun d hd => by cases hd; trivial)
    · exact Tl.sm_skip (Tl.wanted_not rfl rfl ((hF 15 (by decide +kernel)).1 (by decide))) (fun d hd => by cases hd; trivial)
    · exact Tl.sm_v 25 _ rfl (Tl.wanted_none rfl) hC rfl (rn_pickT rfl ((hF 15 (by decide +kernel)).1 (by decide)) rfl)
    · exact Tl.sm_v 26 _ rfl (Tl.wanted_none rfl) hC rfl (rn_move rfl ((hF 25 (by decide +kernel)).1 (by decide)))
    · exact Tl.sm_skip (Tl.wanted_not rfl rfl ((hF 26 (by decide +kernel)).1 (by decide))) (fun d hd => by cases hd; trivial)
    · exact Tl.sm_skip (Tl.wanted_not rfl rfl ((hF 26 (by decide +kernel)).1 (by decide))) (fun d hd => by cases hd; trivial)
    · exact Tl.sm_skip (Tl.wanted_not rfl rfl ((hF 26 (by decide +kernel)).1 (by decide))) (fun d hd => by cases hd; trivial)
    · exact Tl.sm_skip (Tl.wanted_not rfl rfl ((hF 26 (by decide +kernel)).1 (by decide))) (fun d hd => by cases hd; trivial)
    · exact Tl.sm_skip (Tl.wanted_not rfl rfl ((hF 26 (by decide +kernel)).1 (by decide))) (fun d hd => by cases hd; trivial)
    · exact Tl.sm_skip (Tl.wanted_not rfl rfl ((hF 26 (by decide +kernel)).1 (by decide))) (fun d hd => by cases hd; trivial)
    · exact Tl.sm_skip (Tl.wanted_not rfl rfl ((hF 26 (by decide +kernel)).1 (by decide))) (fun d hd => by cases hd; trivial)
    · exact Tl.sm_skip (Tl.wanted_not rfl rfl ((hF 26 (by decide +kernel)).1 (by decide))) (fun d hd => by cases hd; trivial)
    · exact Tl.sm_skip (Tl.wanted_not rfl rfl ((hF 26 (by decide +kernel)).1 (by decide))) (fun d hd => by cases hd; trivial)
    · exact Tl.sm_v 36 _ rfl (Tl.wanted_none rfl) hC rfl (rn_pickT rfl ((hF 26 (by decide +kernel)).1 (by decide)) rfl)
    · exact Tl.sm_v 37 _ rfl (Tl.wanted_none rfl) hC rfl (rn_move rfl ((hF 36 (by decide +kernel)).1 (by decide)))
    · exact Tl.sm_skip (Tl.wanted_not rfl rfl ((hF 37 (by decide +kernel)).1 (by decide))) (fun d hd => by cases hd; trivial)
    · exact Tl.sm_skip (Tl.wanted_not rfl rfl ((hF 37 (by decide +kernel)).1 (by decide))) (fun d hd => by cases hd; trivial)
    · exact Tl.sm_skip (Tl.wanted_not rfl rfl ((hF 37 (by decide +kernel)).1 (by decide))) (fun d hd => by cases hd; trivial)
    · exact Tl.sm_skip (Tl.wanted_not rfl rfl ((hF 37 (by decide +kernel)).1 (by decide))) (fun d hd => by cases hd; trivial)
    · exact Tl.sm_skip (Tl.wanted_not rfl rfl ((hF 37 (by decide +kernel)).1 (by decide))) (fun d hd => by cases hd; trivial)
    · exact Tl.sm_skip (Tl.wanted_not rfl rfl ((hF 37 (by decide +kernel)).1 (by decide))) (fun d hd => by cases hd; trivial)
    · exact Tl.sm_skip (Tl.wanted_not rfl rfl ((hF 37 (by decide +kernel)).1 (by decide))) (fun d hd => by cases hd; trivial)
    · exact Tl.sm_skip (Tl.wanted_not rfl rfl ((hF 37 (by decide +kernel)).1 (by decide))) (fun d hd => by cases hd; trivial)
    · exact Tl.sm_skip (Tl.wanted_not rfl rfl ((hF 37 (by decide +kernel)).1 (by decide))) (fun d hd => by cases hd; trivial)
    · exact Tl.sm_skip (Tl.wanted_not rfl rfl ((hF 37 (by decide +kernel)).1 (by decide))) (fun d hd => by cases hd; trivial)
    · exact Tl.sm_v 48 _ rfl (Tl.wanted_none rfl) hC rfl (rn_pickT rfl ((hF 37 (by decide +kernel)).1 (by decide)) rfl)
    · exact Tl.sm_v 49 _ rfl (Tl.wanted_none rfl) hC rfl (rn_move rfl ((hF 48 (by decide +kernel)).1 (by decide)))
    · exact Tl.sm_skip (Tl.wanted_not rfl rfl ((hF 49 (by decide +kernel)).1 (by decide))) (fun d hd => by cases hd; trivial)
    · exact Tl.sm_skip (Tl.wanted_not rfl rfl ((hF 49 (by decide +kernel)).1 (by decide))) (fun d hd => by cases hd; trivial)
    · exact Tl.sm_skip (Tl.wanted_not rfl rfl ((hF 49 (by decide +kernel)).1 (by decide))) (fun d hd => by cases hd; trivial)
    · exact Tl.sm_skip (Tl.wanted_not rfl rfl ((hF 49 (by decide +kernel)).1 (by decide))) (fun d hd => by cases hd; trivial)
    · exact Tl.sm_skip (Tl.wanted_not rfl rfl ((hF 49 (by decide +kernel)).1 (by decide))) (fun d hd => by cases hd; trivial)
    · exact Tl.sm_skip (Tl.wanted_not rfl rfl ((hF 49 (by decide +kernel)).1 (by decide))) (fun d hd => by cases hd; trivial)
    · exact Tl.sm_skip (Tl.wanted_not rfl rfl ((hF 49 (by decide +kernel)).1 (by decide))) (fun d hd => by cases hd; trivial)
    · exact Tl.sm_skip (Tl.wanted_not rfl rfl ((hF 49 (by decide +kernel)).1 (by decide))) (fun d hd => by cases hd; trivial)
    · exact Tl.sm_skip (Tl.wanted_not rfl rfl ((hF 49 (by decide +kernel)).1 (by decide))) (fun d hd => by cases hd; trivial)
    · exact Tl.sm_skip (Tl.wanted_not rfl rfl ((hF 49 (by decide +kernel)).1 (by decide))) (fun d hd => by cases hd; trivial)
    · exact Tl.sm_skip (Tl.wanted_not rfl rfl ((hF 49 (by decide +kernel)).1 (by decide))) (fun d hd => by cases hd; trivial)
    · exact Tl.sm_v 61 _ rfl (Tl.wanted_none rfl) hC rfl (rn_pickT rfl ((hF 49 (by decide +kernel)).1 (by decide)) rfl)
    intro v W2 hw2 hv
    have v61 : v 61 = .bool true := hv 61 (by decide)
    clear hv
    simp only [Tl.fill, List.drop_succ_cons, List.drop_zero, wpList]
    simp only [Act.put, List.setIfInBounds_toArray, List.set_cons_succ, List.set_cons_zero, v61]
    have HB2 := hid hw2
    clear hw2 v61 HSO HW1 HW2 HI1 HI2 c0 c1 c2 c3 c4 d0 d1 d2 d3 d4 hl1 hl2
    go_wp2_with fail
    go_ret
    exact ⟨by rw [HSM.out, HE.out]; simp, HB2.out⟩
end Go.Proofs.Ytpeeelnkelnlkaa
