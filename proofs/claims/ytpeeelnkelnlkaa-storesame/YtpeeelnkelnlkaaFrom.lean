/- The contract of from, of the law. Printed by gen_from.py. -/
import Derived.Test.YtpeeelnkelnlkaaLast
namespace Go.Proofs.Ytpeeelnkelnlkaa
open Go.RowKit Go.Maps
section
variable {ev : Operand → Value} {o : Oper} {w : World} {x y : Operand}
theorem rn_rem5 {k : Nat} (ho : o.op = .binOp .rem 5 x y 5) (hx : ev x = .int .u8 (k : Int)) (hy : ev y = .int .u8 2) : (execOp ev o).run Try.prog w = .ok (.value (.int .u8 ((k % 2 : Nat) : Int))) w := by
  have e : (k : Int).tmod 2 = ((k % 2 : Nat) : Int) := by
    rw [Int.tmod_eq_emod_of_nonneg (by omega)]; rfl
  have h := Nat.mod_lt k (show 0 < 2 by decide)
  simp [execOp, ho, hx, hy, go_sem, e]
theorem rn_eql5 {u v : Int} {c : Bool} (ho : o.op = .binOp .eql 5 x y 5) (hx : ev x = .int .u8 u) (hy : ev y = .int .u8 v) (hc : decide (u = v) = c) : (execOp ev o).run Try.prog w = .ok (.value (.bool c)) w := by
  subst hc
  have e : (u == v) = decide (u = v) := by by_cases h : u = v <;> simp [h]
  simp [execOp, ho, hx, hy, go_sem, e]
theorem rn_eql9 {u v : ByteArray} {c : Bool} (ho : o.op = .binOp .eql 9 x y 9) (hx : ev x = .string u) (hy : ev y = .string v) (hc : decide (u = v) = c) : (execOp ev o).run Try.prog w = .ok (.value (.bool c)) w := by
  subst hc
  have h := str_eq u v
  simp [execOp, ho, hx, hy, go_sem, h]
theorem rn_geq3 {u v : Int} {c : Bool} (ho : o.op = .binOp .geq 3 x y 3) (hx : ev x = .int .i64 u) (hy : ev y = .int .i64 v) (hc : decide (v ≤ u) = c) : (execOp ev o).run Try.prog w = .ok (.value (.bool c)) w := by
  subst hc
  simp [execOp, ho, hx, hy, go_sem]
theorem rn_sl9 {d : ByteArray} {n : Nat} (ho : o.op = .slice 9 x none (some y) none) (hx : ev x = .string d) (hy : ev y = .int .i64 (n : Int)) (hn : n ≤ d.size) : (execOp ev o).run Try.prog w = .ok (.value (.string (d.extract 0 n))) w := by
  have q : (n : Int) ≤ (d.size : Int) := by omega
  simp [execOp, ho, hx, hy, go_sem, q]
theorem rn_eql28 {p q : Ob} (ho : o.op = .binOp .eql 28 x y 28) (hx : ev x = .agg #[.string p.1, .string p.2]) (hy : ev y = .agg #[.string q.1, .string q.2]) : (execOp ev o).run Try.prog w = .ok (.value (.bool (decide (p = q)))) w := by
  obtain ⟨p1, p2⟩ := p
  obtain ⟨q1, q2⟩ := q
  have h1 := eql28 w p1 p2 q1 q2
  unfold obv at h1
  have h2 := fun a b => gd28 .eql w a b #[.string p1, .string p2] #[.string q1, .string q2]
  simp [execOp, ho, hx, hy, h1, h2, Result.andThen]
end
/-- an act that may have made an object -/
def Fits (x : Ac) (p : Ob) : Prop := x.kind % 2 = 0 ∧ x.name = p.1 ∧ p.2.size ≤ x.data.size ∧ x.data.extract 0 p.2.size = p.2
theorem fromB_iff (p : Ob) (A : List Ob) (l : List Ac) : fromB p A l = true ↔ (∃ r ∈ A, r = p) ∨ ∃ x ∈ l, Fits x p := by
  unfold fromB Fits
  simp only [Bool.or_eq_true, List.any_eq_true, Bool.and_eq_true, decide_eq_true_eq]
def frA (v1 : Value) (g k : Nat) (r p : Ob) (i : Nat) (v : Value) (_ : World) : Prop := match i with
  | 16 => v = v1
  | 17 => v = .int .i64 (k : Int)
  | 18 => v = .pointer (some ⟨g, k * 2, none⟩)
  | 19 => v = .agg #[.string r.1, .string r.2]
  | 20 => v = .agg #[.string p.1, .string p.2]
  | 21 => v = .bool (decide (r = p))
  | _ => True
def frF0 (v2 : Value) (g o k _b9 _b3 : Nat) (x : Ac) (_p : Ob) (i : Nat) (v : Value) (_ : World) : Prop := match i with
  | 33 => v = v2
  | 34 => v = .int .i64 (k : Int)
  | 35 => v = .pointer (some ⟨g, o + k * 9, none⟩)
  | 36 => v = .pointer (some ⟨g, o + k * 9, none⟩)
  | 37 => v = .int .u8 (x.kind : Int)
  | 38 => v = .int .u8 ((x.kind % 2 : Nat) : Int)
  | 39 => v = .bool false
  | 40 => v = .bool false
  | 46 => v = .bool false
  | 47 => v = .bool false
  | 55 => v = .bool false
  | 56 => v = .bool false
  | 66 => v = .bool false
  | _ => True
def frF1 (v2 : Value) (g o k b9 b3 : Nat) (x : Ac) (p : Ob) (i : Nat) (v : Value) (_ : World) : Prop := match i with
  | 33 => v = v2
  | 34 => v = .int .i64 (k : Int)
  | 35 => v = .pointer (some ⟨g, o + k * 9, none⟩)
  | 36 => v = .pointer (some ⟨g, o + k * 9, none⟩)
  | 37 => v = .int .u8 (x.kind : Int)
  | 38 => v = .int .u8 ((x.kind % 2 : Nat) : Int)
  | 39 => v = .bool true
  | 40 => v = .bool true
  | 41 => v = .pointer (some ⟨b9, 0, none⟩)
  | 42 => v = .string x.name
  | 43 => v = .pointer (some ⟨b3, 0, none⟩)
  | 44 => v = .string p.1
  | 45 => v = .bool false
  | 46 => v = .bool false
  | 47 => v = .bool false
  | 55 => v = .bool false
  | 56 => v = .bool false
  | 66 => v = .bool false
  | _ => True
def frF2 (v2 : Value) (g o k b9 b3 : Nat) (x : Ac) (p : Ob) (i : Nat) (v : Value) (_ : World) : Prop := match i with
  | 33 => v = v2
  | 34 => v = .int .i64 (k : Int)
  | 35 => v = .pointer (some ⟨g, o + k * 9, none⟩)
  | 36 => v = .pointer (some ⟨g, o + k * 9, none⟩)
  | 37 => v = .int .u8 (x.kind : Int)
  | 38 => v = .int .u8 ((x.kind % 2 : Nat) : Int)
  | 39 => v = .bool true
  | 40 => v = .bool true
  | 41 => v = .pointer (some ⟨b9, 0, none⟩)
  | 42 => v = .string x.name
  | 43 => v = .pointer (some ⟨b3, 0, none⟩)
  | 44 => v = .string p.1
  | 45 => v = .bool true
  | 46 => v = .bool true
  | 47 => v = .bool true
  | 48 => v = .pointer (some ⟨b9, 1, none⟩)
  | 49 => v = .string x.data
  | 50 => v = .int .i64 (x.data.size : Int)
  | 51 => v = .pointer (some ⟨b3, 1, none⟩)
  | 52 => v = .string p.2
  | 53 => v = .int .i64 (p.2.size : Int)
  | 54 => v = .bool false
  | 55 => v = .bool false
  | 56 => v = .bool false
  | 66 => v = .bool false
  | _ => True
def frF3 (v2 : Value) (g o k b9 b3 : Nat) (x : Ac) (p : Ob) (i : Nat) (v : Value) (_ : World) : Prop := match i with
  | 33 => v = v2
  | 34 => v = .int .i64 (k : Int)
  | 35 => v = .pointer (some ⟨g, o + k * 9, none⟩)
  | 36 => v = .pointer (some ⟨g, o + k * 9, none⟩)
  | 37 => v = .int .u8 (x.kind : Int)
  | 38 => v = .int .u8 ((x.kind % 2 : Nat) : Int)
  | 39 => v = .bool true
  | 40 => v = .bool true
  | 41 => v = .pointer (some ⟨b9, 0, none⟩)
  | 42 => v = .string x.name
  | 43 => v = .pointer (some ⟨b3, 0, none⟩)
  | 44 => v = .string p.1
  | 45 => v = .bool true
  | 46 => v = .bool true
  | 47 => v = .bool true
  | 48 => v = .pointer (some ⟨b9, 1, none⟩)
  | 49 => v = .string x.data
  | 50 => v = .int .i64 (x.data.size : Int)
  | 51 => v = .pointer (some ⟨b3, 1, none⟩)
  | 52 => v = .string p.2
  | 53 => v = .int .i64 (p.2.size : Int)
  | 54 => v = .bool true
  | 55 => v = .bool true
  | 56 => v = .bool true
  | 57 => v = .pointer (some ⟨b9, 1, none⟩)
  | 58 => v = .string x.data
  | 59 => v = .pointer (some ⟨b3, 1, none⟩)
  | 60 => v = .string p.2
  | 61 => v = .int .i64 (p.2.size : Int)
  | 62 => v = .string (x.data.extract 0 p.2.size)
  | 63 => v = .pointer (some ⟨b3, 1, none⟩)
  | 64 => v = .string p.2
  | 65 => v = .bool (decide (x.data.extract 0 p.2.size = p.2))
  | 66 => v = .bool (decide (x.data.extract 0 p.2.size = p.2))
  | _ => True

theorem Below.two {w W : World} {b : Nat} {u v : Value} {t : TypeId} (h : Has w b #[u, v] t) (hb : Below w.heap.size w W) : W.cell? ⟨b, 0, none⟩ = some u ∧ W.cell? ⟨b, 1, none⟩ = some v :=
  ⟨(h.below hb h.lt).cell 0, (h.below hb h.lt).cell 1⟩

set_option maxHeartbeats 4000000 in
set_option maxRecDepth 20000 in
theorem from_any {w : World} {p : Ob} {A : List Ob} {l : List Ac} {v1 v2 : Value} {B : Nat} (hA : w.ownsRow B 28 2 v1 A.length (objCells A)) (hl : Acts w v2 l) : Calls Try.prog 32 #[.agg #[.string p.1, .string p.2], v1, v2] w fun e w' => e = .returned (.bool (fromB p A l)) ∧ Below w.heap.size w w' := by
  obtain ⟨a1, ca, rfl⟩ := row_slice hA
  obtain ⟨a2, cap, hv⟩ : ∃ va vc, v2 = .slice va l.length vc := by
    rcases hl.1 with ⟨A0, c0, rfl, rfl⟩ | ⟨g, o, cap, rfl, _⟩
    · exact ⟨_, _, rfl⟩
    · exact ⟨_, _, rfl⟩
  subst hv
  have HI := hid (fromB_iff p A l)
  have HA := hid hA
  have HL := hid hl
  have HH := hid (Has.new w w.heap.size #[.string p.1, .string p.2] 28 rfl)
  have H0 := hid (boxed w (.cells #[.string p.1, .string p.2] 28))
  have hAl : A.length ≤ 9223372036854775807 := by
    rcases row_form hA with ⟨_, h, _⟩ | ⟨_, c, _, _, _, h1, h2, _⟩
    · omega
    · unfold maxLen at h2; omega
  have hLl : l.length ≤ 9223372036854775807 := by
    rcases hl.1 with ⟨_, _, _, h⟩ | ⟨_, _, _, _, h, _⟩
    · rw [h]; simp
    · exact h
  clear hA hl
  obtain ⟨w1, hw1⟩ : ∃ w1, w1 = w.alloc (.cells #[.string p.1, .string p.2] 28) := ⟨_, rfl⟩
  have HW := hid hw1
  go_enter Try.func32, Try.ntmps32
  go_wp2_with fail
  rw [← hw1] at HH H0 ⊢
  clear hw1
  generalize hAn : A.length = An at *
  have HAn := hid hAn
  clear hAn
  generalize hLn : l.length = L at *
  have HLn := hid hLn
  clear hLn
  go_loopg [7] An (fun gk s7 wx => ∃ k : Nat, k + gk = An ∧ s7 = .int .i64 (k : Int) ∧ Hid (∀ r ∈ A.take k, r ≠ p) ∧ Below w1.heap.size w1 wx)
  case atStart => exact ⟨0, by omega, rfl, hid (fun r hr => by simp at hr), Below.refl _ _⟩
  case round =>
    obtain ⟨k, hk, rfl, HT, hbw⟩ := hrel
    have HBW := hid hbw
    cases gk with
    | zero =>
      have q1 : ¬ ((k : Int) < (An : Int)) := by omega
      have HT' := hid (show ∀ r ∈ A, r ≠ p from by
        have := HT.out
        rwa [List.take_of_length_le (by rw [HAn.out]; omega)] at this)
      clear hbw HT hk
      go_wp2_with fail
      go_loopg [8] L (fun gk s8 wx => ∃ k : Nat, k + gk = L ∧ s8 = .int .i64 (k : Int) ∧ Hid (∀ y ∈ l.take k, ¬ Fits y p) ∧ Below w1.heap.size w1 wx)
      case atStart => exact ⟨0, by omega, rfl, hid (fun r hr => by simp at hr), HBW.out⟩
      case round =>
        clear HBW
        obtain ⟨k, hk, rfl, HT, hbw⟩ := hrel
        have HBW := hid hbw
        cases gk with
        | zero =>
          have q1 : ¬ ((k : Int) < (L : Int)) := by omega
          have HE := hid (show fromB p A l = false from by
            cases hb : fromB p A l with
            | false => rfl
            | true =>
              have h2 := HT.out
              rw [List.take_of_length_le (by rw [HLn.out]; omega)] at h2
              rcases HI.out.1 hb with ⟨r, hr, e⟩ | ⟨x, hx, e⟩
              · exact absurd e (HT'.out r hr)
              · exact absurd e (h2 x hx))
          clear hbw HT hk
          go_wp2_with fail
          go_ret
          exact ⟨by rw [HE.out]; rfl, H0.out.trans (HBW.out.mono H0.out.size)⟩
        | succ g1 =>
          have q1 : (k : Int) < (L : Int) := by omega
          have hk1 : k < L := by omega
          obtain ⟨x, hx⟩ : ∃ x, l[k]? = some x := ⟨_, List.getElem?_eq_getElem (by rw [HLn.out]; exact hk1)⟩
          rcases HL.out.1 with ⟨_, _, _, hl0⟩ | ⟨g, o, cap', ev, _, hg, hc⟩
          · rw [← HLn.out, hl0] at hk1; simp at hk1
          rw [HLn.out] at ev
          cases ev
          have hbW := H0.out.trans (hbw.mono H0.out.size)
          have c0 : wr.cell? ⟨g, o + k * 9, none⟩ = some (.int .u8 (x.kind : Int)) := by rw [hbW.cell (p := ⟨g, o + k * 9, none⟩) hg]; exact hc k x hx 0 _ rfl
          have c1 : wr.cell? ⟨g, o + k * 9 + 1, none⟩ = some (.string x.name) := by rw [hbW.cell (p := ⟨g, o + k * 9 + 1, none⟩) hg]; exact hc k x hx 1 _ rfl
          have c2 : wr.cell? ⟨g, o + k * 9 + 2, none⟩ = some (.string x.data) := by rw [hbW.cell (p := ⟨g, o + k * 9 + 2, none⟩) hg]; exact hc k x hx 2 _ rfl
          obtain ⟨b0, b1⟩ := Below.two HH.out hbw
          have HN := hid (show ¬ Fits x p → ∀ y ∈ l.take (k + 1), ¬ Fits y p from fun h y hy => by
            rw [List.take_add_one, hx] at hy
            rcases List.mem_append.1 hy with h' | h'
            · exact HT.out y h'
            · simp at h'; rw [h']; exact h)
          have HYES := hid (show Fits x p → fromB p A l = true from fun h => HI.out.2 (.inr ⟨x, List.mem_of_getElem? hx, h⟩))
          have hgw := Nat.lt_of_lt_of_le hg hbW.size
          have HBW2 := hid (HBW.out.trans ((boxed wr (.cells #[.string x.name, .string x.data] 28)).mono HBW.out.size))
          clear hc hx hbw HT hbW
          go_wp2_with fail
          have c0 : (wr.alloc (.cells #[.string x.name, .string x.data] 28)).cell? ⟨g, o + k * 9, none⟩ = some (.int .u8 (x.kind : Int)) := by
            rw [(boxed wr (.cells #[.string x.name, .string x.data] 28)).cell (p := ⟨g, o + k * 9, none⟩) hgw]; exact c0
          obtain ⟨n9, d9, _, _⟩ := two_cells (Has.new wr wr.heap.size #[.string x.name, .string x.data] 28 rfl)
          have hbl : w.heap.size < wr.heap.size := by
            have h1 := HBW.out.size
            have h2 : w1.heap.size = w.heap.size + 1 := by rw [HW.out]; simp
            omega
          have n3 : (wr.alloc (.cells #[.string x.name, .string x.data] 28)).cell? ⟨w.heap.size, 0, none⟩ = some (.string p.1) := by
            rw [(boxed wr (.cells #[.string x.name, .string x.data] 28)).cell (p := ⟨w.heap.size, 0, none⟩) hbl]; exact b0
          have d3 : (wr.alloc (.cells #[.string x.name, .string x.data] 28)).cell? ⟨w.heap.size, 1, none⟩ = some (.string p.2) := by
            rw [(boxed wr (.cells #[.string x.name, .string x.data] 28)).cell (p := ⟨w.heap.size, 1, none⟩) hbl]; exact b1
          clear c1 c2 b0 b1
          by_cases hev : x.kind % 2 = 0
          · have e39 : decide (((x.kind % 2 : Nat) : Int) = 0) = true := decide_eq_true (by omega)
            by_cases hnm : x.name = p.1
            · have e45 : decide (x.name = p.1) = true := decide_eq_true hnm
              by_cases hsz : p.2.size ≤ x.data.size
              · have e54 : decide ((p.2.size : Int) ≤ (x.data.size : Int)) = true := decide_eq_true (by omega)
                refine Tl.wp_mix_lit (by kernel_rfl) 34 [33, 34, 35, 36, 37, 38, 39, 40, 41, 42, 43, 44, 45, 46, 47, 48, 49, 50, 51, 52, 53, 54, 55, 56, 57, 58, 59, 60, 61, 62, 63, 64, 65, 66] 67 rfl (by kernel_rfl) (AtW (wr.alloc (.cells #[.string x.name, .string x.data] 28)).drew) (frF3 (.slice (some ⟨g, o, none⟩) L cap) g o k wr.heap.size w.heap.size x p) rfl
                  ⟨fun a' W' hC hF => ?_, fun a' W' hC hF => ?_, fun a' W' hC hF => ?_, fun a' W' hC hF => ?_, fun a' W' hC hF => ?_, fun a' W' hC hF => ?_, fun a' W' hC hF => ?_, fun a' W' hC hF => ?_, fun a' W' hC hF => ?_, fun a' W' hC hF => ?_, fun a' W' hC hF => ?_, fun a' W' hC hF => ?_, fun a' W' hC hF => ?_, fun a' W' hC hF => ?_, fun a' W' hC hF => ?_, fun a' W' hC hF => ?_, fun a' W' hC hF => ?_, fun a' W' hC hF => ?_, fun a' W' hC hF => ?_, fun a' W' hC hF => ?_, fun a' W' hC hF => ?_, fun a' W' hC hF => ?_, fun a' W' hC hF => ?_, fun a' W' hC hF => ?_, fun a' W' hC hF => ?_, fun a' W' hC hF => ?_, fun a' W' hC hF => ?_, fun a' W' hC hF => ?_, fun a' W' hC hF => ?_, fun a' W' hC hF => ?_, fun a' W' hC hF => ?_, fun a' W' hC hF => ?_, fun a' W' hC hF => ?_, fun a' W' hC hF => ?_, trivial⟩ ?_
                · exact Tl.sm_v 33 _ rfl (Tl.wanted_none rfl) hC rfl (rn_move rfl ((hF 2 (by decide +kernel)).2 (by decide)))
                · exact Tl.sm_v 34 _ rfl (Tl.wanted_none rfl) hC rfl (rn_move rfl ((hF 8 (by decide +kernel)).2 (by decide)))
                · exact Tl.sm_v 35 _ rfl (Tl.wanted_none rfl) hC rfl (rn_ix35 rfl ((hF 33 (by decide +kernel)).1 (by decide)) ((hF 34 (by decide +kernel)).1 (by decide)) hk1)
                · exact Tl.sm_v 36 _ rfl (Tl.wanted_none rfl) hC rfl (rn_f41_0 rfl ((hF 35 (by decide +kernel)).1 (by decide)))
                · exact Tl.sm_v 37 _ rfl (Tl.wanted_none rfl) hC rfl (rn_load5 rfl ((hF 36 (by decide +kernel)).1 (by decide)) (by rw [show W' = _ from hC]; exact c0))
                · exact Tl.sm_v 38 _ rfl (Tl.wanted_none rfl) hC rfl (rn_rem5 rfl ((hF 37 (by decide +kernel)).1 (by decide)) rfl )
                · exact Tl.sm_v 39 _ rfl (Tl.wanted_none rfl) hC rfl (rn_eql5 rfl ((hF 38 (by decide +kernel)).1 (by decide)) rfl e39)
                · exact Tl.sm_v 40 _ rfl (Tl.wanted_none rfl) hC rfl (rn_move rfl ((hF 39 (by decide +kernel)).1 (by decide)))
                · exact Tl.sm_v 41 _ rfl (Tl.wanted_is rfl rfl ((hF 40 (by decide +kernel)).1 (by decide))) hC rfl (rn_f28_0 rfl ((hF 9 (by decide +kernel)).2 (by decide)))
                · exact Tl.sm_v 42 _ rfl (Tl.wanted_is rfl rfl ((hF 40 (by decide +kernel)).1 (by decide))) hC rfl (rn_load9 rfl ((hF 41 (by decide +kernel)).1 (by decide)) (by rw [show W' = _ from hC]; exact n9))
                · exact Tl.sm_v 43 _ rfl (Tl.wanted_is rfl rfl ((hF 40 (by decide +kernel)).1 (by decide))) hC rfl (rn_f28_0 rfl ((hF 3 (by decide +kernel)).2 (by decide)))
                · exact Tl.sm_v 44 _ rfl (Tl.wanted_is rfl rfl ((hF 40 (by decide +kernel)).1 (by decide))) hC rfl (rn_load9 rfl ((hF 43 (by decide +kernel)).1 (by decide)) (by rw [show W' = _ from hC]; exact n3))
                · exact Tl.sm_v 45 _ rfl (Tl.wanted_is rfl rfl ((hF 40 (by decide +kernel)).1 (by decide))) hC rfl (rn_eql9 rfl ((hF 42 (by decide +kernel)).1 (by decide)) ((hF 44 (by decide +kernel)).1 (by decide)) e45)
                · exact Tl.sm_v 46 _ rfl (Tl.wanted_none rfl) hC rfl (rn_pickT rfl ((hF 40 (by decide +kernel)).1 (by decide)) ((hF 45 (by decide +kernel)).1 (by decide)))
                · exact Tl.sm_v 47 _ rfl (Tl.wanted_none rfl) hC rfl (rn_move rfl ((hF 46 (by decide +kernel)).1 (by decide)))
                · exact Tl.sm_v 48 _ rfl (Tl.wanted_is rfl rfl ((hF 47 (by decide +kernel)).1 (by decide))) hC rfl (rn_f28_1 rfl ((hF 9 (by decide +kernel)).2 (by decide)))
                · exact Tl.sm_v 49 _ rfl (Tl.wanted_is rfl rfl ((hF 47 (by decide +kernel)).1 (by decide))) hC rfl (rn_load9 rfl ((hF 48 (by decide +kernel)).1 (by decide)) (by rw [show W' = _ from hC]; exact d9))
                · exact Tl.sm_v 50 _ rfl (Tl.wanted_is rfl rfl ((hF 47 (by decide +kernel)).1 (by decide))) hC rfl (rn_len9 rfl ((hF 49 (by decide +kernel)).1 (by decide)) )
                · exact Tl.sm_v 51 _ rfl (Tl.wanted_is rfl rfl ((hF 47 (by decide +kernel)).1 (by decide))) hC rfl (rn_f28_1 rfl ((hF 3 (by decide +kernel)).2 (by decide)))
                · exact Tl.sm_v 52 _ rfl (Tl.wanted_is rfl rfl ((hF 47 (by decide +kernel)).1 (by decide))) hC rfl (rn_load9 rfl ((hF 51 (by decide +kernel)).1 (by decide)) (by rw [show W' = _ from hC]; exact d3))
                · exact Tl.sm_v 53 _ rfl (Tl.wanted_is rfl rfl ((hF 47 (by decide +kernel)).1 (by decide))) hC rfl (rn_len9 rfl ((hF 52 (by decide +kernel)).1 (by decide)) )
                · exact Tl.sm_v 54 _ rfl (Tl.wanted_is rfl rfl ((hF 47 (by decide +kernel)).1 (by decide))) hC rfl (rn_geq3 rfl ((hF 50 (by decide +kernel)).1 (by decide)) ((hF 53 (by decide +kernel)).1 (by decide)) e54)
                · exact Tl.sm_v 55 _ rfl (Tl.wanted_none rfl) hC rfl (rn_pickT rfl ((hF 47 (by decide +kernel)).1 (by decide)) ((hF 54 (by decide +kernel)).1 (by decide)))
                · exact Tl.sm_v 56 _ rfl (Tl.wanted_none rfl) hC rfl (rn_move rfl ((hF 55 (by decide +kernel)).1 (by decide)))
                · exact Tl.sm_v 57 _ rfl (Tl.wanted_is rfl rfl ((hF 56 (by decide +kernel)).1 (by decide))) hC rfl (rn_f28_1 rfl ((hF 9 (by decide +kernel)).2 (by decide)))
                · exact Tl.sm_v 58 _ rfl (Tl.wanted_is rfl rfl ((hF 56 (by decide +kernel)).1 (by decide))) hC rfl (rn_load9 rfl ((hF 57 (by decide +kernel)).1 (by decide)) (by rw [show W' = _ from hC]; exact d9))
                · exact Tl.sm_v 59 _ rfl (Tl.wanted_is rfl rfl ((hF 56 (by decide +kernel)).1 (by decide))) hC rfl (rn_f28_1 rfl ((hF 3 (by decide +kernel)).2 (by decide)))
                · exact Tl.sm_v 60 _ rfl (Tl.wanted_is rfl rfl ((hF 56 (by decide +kernel)).1 (by decide))) hC rfl (rn_load9 rfl ((hF 59 (by decide +kernel)).1 (by decide)) (by rw [show W' = _ from hC]; exact d3))
                · exact Tl.sm_v 61 _ rfl (Tl.wanted_is rfl rfl ((hF 56 (by decide +kernel)).1 (by decide))) hC rfl (rn_len9 rfl ((hF 60 (by decide +kernel)).1 (by decide)) )
                · exact Tl.sm_v 62 _ rfl (Tl.wanted_is rfl rfl ((hF 56 (by decide +kernel)).1 (by decide))) hC rfl (rn_sl9 rfl ((hF 58 (by decide +kernel)).1 (by decide)) ((hF 61 (by decide +kernel)).1 (by decide)) hsz)
                · exact Tl.sm_v 63 _ rfl (Tl.wanted_is rfl rfl ((hF 56 (by decide +kernel)).1 (by decide))) hC rfl (rn_f28_1 rfl ((hF 3 (by decide +kernel)).2 (by decide)))
                · exact Tl.sm_v 64 _ rfl (Tl.wanted_is rfl rfl ((hF 56 (by decide +kernel)).1 (by decide))) hC rfl (rn_load9 rfl ((hF 63 (by decide +kernel)).1 (by decide)) (by rw [show W' = _ from hC]; exact d3))
                · exact Tl.sm_v 65 _ rfl (Tl.wanted_is rfl rfl ((hF 56 (by decide +kernel)).1 (by decide))) hC rfl (rn_eql9 rfl ((hF 62 (by decide +kernel)).1 (by decide)) ((hF 64 (by decide +kernel)).1 (by decide)) rfl)
                · exact Tl.sm_v 66 _ rfl (Tl.wanted_none rfl) hC rfl (rn_pickT rfl ((hF 56 (by decide +kernel)).1 (by decide)) ((hF 65 (by decide +kernel)).1 (by decide)))
                intro v wB hw hv
                obtain rfl : wB = _ := hw
                have v66 : v 66 = .bool (decide (x.data.extract 0 p.2.size = p.2)) := hv 66 (by decide)
                clear hv
                simp only [Tl.fill, List.drop_succ_cons, List.drop_zero, wpList]
                by_cases hx : x.data.extract 0 p.2.size = p.2
                · rw [decide_eq_true hx] at v66
                  have HY := hid (HYES.out ⟨hev, hnm, hsz, hx⟩)
                  simp only [Act.put, List.setIfInBounds_toArray, List.set_cons_succ, List.set_cons_zero, v66]
                  clear v66 hx c0 n9 d9 n3 d3 hnm e45
                  go_wp2_with fail
                  go_ret
                  exact ⟨by rw [HY.out]; rfl, (H0.out.trans (HBW2.out.mono H0.out.size)).drew⟩
                · rw [decide_eq_false hx] at v66
                  have HNX := HN.out (fun h => hx h.2.2.2)
                  clear hx
                  simp only [Act.put, List.setIfInBounds_toArray, List.set_cons_succ, List.set_cons_zero, v66]
                  clear v66 c0 n9 d9 n3 d3 hnm e45
                  go_wp2_with fail
                  go_roundg g1
                  case measure => omega
                  case rel => exact ⟨k + 1, by omega, by first | rfl | simp, hid HNX, HBW2.out.drew⟩
              · have e54 : decide ((p.2.size : Int) ≤ (x.data.size : Int)) = false := decide_eq_false (by omega)
                refine Tl.wp_mix_lit (by kernel_rfl) 34 [33, 34, 35, 36, 37, 38, 39, 40, 41, 42, 43, 44, 45, 46, 47, 48, 49, 50, 51, 52, 53, 54, 55, 56, 57, 58, 59, 60, 61, 62, 63, 64, 65, 66] 67 rfl (by kernel_rfl) (AtW (wr.alloc (.cells #[.string x.name, .string x.data] 28)).drew) (frF2 (.slice (some ⟨g, o, none⟩) L cap) g o k wr.heap.size w.heap.size x p) rfl
                  ⟨fun a' W' hC hF => ?_, fun a' W' hC hF => ?_, fun a' W' hC hF => ?_, fun a' W' hC hF => ?_, fun a' W' hC hF => ?_, fun a' W' hC hF => ?_, fun a' W' hC hF => ?_, fun a' W' hC hF => ?_, fun a' W' hC hF => ?_, fun a' W' hC hF => ?_, fun a' W' hC hF => ?_, fun a' W' hC hF => ?_, fun a' W' hC hF => ?_, fun a' W' hC hF => ?_, fun a' W' hC hF => ?_, fun a' W' hC hF => ?_, fun a' W' hC hF => ?_, fun a' W' hC hF => ?_, fun a' W' hC hF => ?_, fun a' W' hC hF => ?_, fun a' W' hC hF => ?_, fun a' W' hC hF => ?_, fun a' W' hC hF => ?_, fun a' W' hC hF => ?_, fun a' W' hC hF => ?_, fun a' W' hC hF => ?_, fun a' W' hC hF => ?_, fun a' W' hC hF => ?_, fun a' W' hC hF => ?_, fun a' W' hC hF => ?_, fun a' W' hC hF => ?_, fun a' W' hC hF => ?_, fun a' W' hC hF => ?_, fun a' W' hC hF => ?_, trivial⟩ ?_
                · exact Tl.sm_v 33 _ rfl (Tl.wanted_none rfl) hC rfl (rn_move rfl ((hF 2 (by decide +kernel)).2 (by decide)))
                · exact Tl.sm_v 34 _ rfl (Tl.wanted_none rfl) hC rfl (rn_move rfl ((hF 8 (by decide +kernel)).2 (by decide)))
                · exact Tl.sm_v 35 _ rfl (Tl.wanted_none rfl) hC rfl (rn_ix35 rfl ((hF 33 (by decide +kernel)).1 (by decide)) ((hF 34 (by decide +kernel)).1 (by decide)) hk1)
                · exact Tl.sm_v 36 _ rfl (Tl.wanted_none rfl) hC rfl (rn_f41_0 rfl ((hF 35 (by decide +kernel)).1 (by decide)))
                · exact Tl.sm_v 37 _ rfl (Tl.wanted_none rfl) hC rfl (rn_load5 rfl ((hF 36 (by decide +kernel)).1 (by decide)) (by rw [show W' = _ from hC]; exact c0))
                · exact Tl.sm_v 38 _ rfl (Tl.wanted_none rfl) hC rfl (rn_rem5 rfl ((hF 37 (by decide +kernel)).1 (by decide)) rfl )
                · exact Tl.sm_v 39 _ rfl (Tl.wanted_none rfl) hC rfl (rn_eql5 rfl ((hF 38 (by decide +kernel)).1 (by decide)) rfl e39)
                · exact Tl.sm_v 40 _ rfl (Tl.wanted_none rfl) hC rfl (rn_move rfl ((hF 39 (by decide +kernel)).1 (by decide)))
                · exact Tl.sm_v 41 _ rfl (Tl.wanted_is rfl rfl ((hF 40 (by decide +kernel)).1 (by decide))) hC rfl (rn_f28_0 rfl ((hF 9 (by decide +kernel)).2 (by decide)))
                · exact Tl.sm_v 42 _ rfl (Tl.wanted_is rfl rfl ((hF 40 (by decide +kernel)).1 (by decide))) hC rfl (rn_load9 rfl ((hF 41 (by decide +kernel)).1 (by decide)) (by rw [show W' = _ from hC]; exact n9))
                · exact Tl.sm_v 43 _ rfl (Tl.wanted_is rfl rfl ((hF 40 (by decide +kernel)).1 (by decide))) hC rfl (rn_f28_0 rfl ((hF 3 (by decide +kernel)).2 (by decide)))
                · exact Tl.sm_v 44 _ rfl (Tl.wanted_is rfl rfl ((hF 40 (by decide +kernel)).1 (by decide))) hC rfl (rn_load9 rfl ((hF 43 (by decide +kernel)).1 (by decide)) (by rw [show W' = _ from hC]; exact n3))
                · exact Tl.sm_v 45 _ rfl (Tl.wanted_is rfl rfl ((hF 40 (by decide +kernel)).1 (by decide))) hC rfl (rn_eql9 rfl ((hF 42 (by decide +kernel)).1 (by decide)) ((hF 44 (by decide +kernel)).1 (by decide)) e45)
                · exact Tl.sm_v 46 _ rfl (Tl.wanted_none rfl) hC rfl (rn_pickT rfl ((hF 40 (by decide +kernel)).1 (by decide)) ((hF 45 (by decide +kernel)).1 (by decide)))
                · exact Tl.sm_v 47 _ rfl (Tl.wanted_none rfl) hC rfl (rn_move rfl ((hF 46 (by decide +kernel)).1 (by decide)))
                · exact Tl.sm_v 48 _ rfl (Tl.wanted_is rfl rfl ((hF 47 (by decide +kernel)).1 (by decide))) hC rfl (rn_f28_1 rfl ((hF 9 (by decide +kernel)).2 (by decide)))
                · exact Tl.sm_v 49 _ rfl (Tl.wanted_is rfl rfl ((hF 47 (by decide +kernel)).1 (by decide))) hC rfl (rn_load9 rfl ((hF 48 (by decide +kernel)).1 (by decide)) (by rw [show W' = _ from hC]; exact d9))
                · exact Tl.sm_v 50 _ rfl (Tl.wanted_is rfl rfl ((hF 47 (by decide +kernel)).1 (by decide))) hC rfl (rn_len9 rfl ((hF 49 (by decide +kernel)).1 (by decide)) )
                · exact Tl.sm_v 51 _ rfl (Tl.wanted_is rfl rfl ((hF 47 (by decide +kernel)).1 (by decide))) hC rfl (rn_f28_1 rfl ((hF 3 (by decide +kernel)).2 (by decide)))
                · exact Tl.sm_v 52 _ rfl (Tl.wanted_is rfl rfl ((hF 47 (by decide +kernel)).1 (by decide))) hC rfl (rn_load9 rfl ((hF 51 (by decide +kernel)).1 (by decide)) (by rw [show W' = _ from hC]; exact d3))
                · exact Tl.sm_v 53 _ rfl (Tl.wanted_is rfl rfl ((hF 47 (by decide +kernel)).1 (by decide))) hC rfl (rn_len9 rfl ((hF 52 (by decide +kernel)).1 (by decide)) )
                · exact Tl.sm_v 54 _ rfl (Tl.wanted_is rfl rfl ((hF 47 (by decide +kernel)).1 (by decide))) hC rfl (rn_geq3 rfl ((hF 50 (by decide +kernel)).1 (by decide)) ((hF 53 (by decide +kernel)).1 (by decide)) e54)
                · exact Tl.sm_v 55 _ rfl (Tl.wanted_none rfl) hC rfl (rn_pickT rfl ((hF 47 (by decide +kernel)).1 (by decide)) ((hF 54 (by decide +kernel)).1 (by decide)))
                · exact Tl.sm_v 56 _ rfl (Tl.wanted_none rfl) hC rfl (rn_move rfl ((hF 55 (by decide +kernel)).1 (by decide)))
                · exact Tl.sm_skip (Tl.wanted_not rfl rfl ((hF 56 (by decide +kernel)).1 (by decide))) (fun d hd => by cases hd; trivial)
                · exact Tl.sm_skip (Tl.wanted_not rfl rfl ((hF 56 (by decide +kernel)).1 (by decide))) (fun d hd => by cases hd; trivial)
                · exact Tl.sm_skip (Tl.wanted_not rfl rfl ((hF 56 (by decide +kernel)).1 (by decide))) (fun d hd => by cases hd; trivial)
                · exact Tl.sm_skip (Tl.wanted_not rfl rfl ((hF 56 (by decide +kernel)).1 (by decide))) (fun d hd => by cases hd; trivial)
                · exact Tl.sm_skip (Tl.wanted_not rfl rfl ((hF 56 (by decide +kernel)).1 (by decide))) (fun d hd => by cases hd; trivial)
                · exact Tl.sm_skip (Tl.wanted_not rfl rfl ((hF 56 (by decide +kernel)).1 (by decide))) (fun d hd => by cases hd; trivial)
                · exact Tl.sm_skip (Tl.wanted_not rfl rfl ((hF 56 (by decide +kernel)).1 (by decide))) (fun d hd => by cases hd; trivial)
                · exact Tl.sm_skip (Tl.wanted_not rfl rfl ((hF 56 (by decide +kernel)).1 (by decide))) (fun d hd => by cases hd; trivial)
                · exact Tl.sm_skip (Tl.wanted_not rfl rfl ((hF 56 (by decide +kernel)).1 (by decide))) (fun d hd => by cases hd; trivial)
                · exact Tl.sm_v 66 _ rfl (Tl.wanted_none rfl) hC rfl (rn_pickF rfl ((hF 56 (by decide +kernel)).1 (by decide)) rfl)
                intro v wB hw hv
                obtain rfl : wB = _ := hw
                have v66 : v 66 = .bool false := hv 66 (by decide)
                clear hv
                simp only [Tl.fill, List.drop_succ_cons, List.drop_zero, wpList]
                have HNX := HN.out (fun h => hsz h.2.2.1)
                simp only [Act.put, List.setIfInBounds_toArray, List.set_cons_succ, List.set_cons_zero, v66]
                clear v66 c0 n9 d9 n3 d3 hnm e45
                go_wp2_with fail
                go_roundg g1
                case measure => omega
                case rel => exact ⟨k + 1, by omega, by first | rfl | simp, hid HNX, HBW2.out.drew⟩
            · have e45 : decide (x.name = p.1) = false := decide_eq_false hnm
              refine Tl.wp_mix_lit (by kernel_rfl) 34 [33, 34, 35, 36, 37, 38, 39, 40, 41, 42, 43, 44, 45, 46, 47, 48, 49, 50, 51, 52, 53, 54, 55, 56, 57, 58, 59, 60, 61, 62, 63, 64, 65, 66] 67 rfl (by kernel_rfl) (AtW (wr.alloc (.cells #[.string x.name, .string x.data] 28)).drew) (frF1 (.slice (some ⟨g, o, none⟩) L cap) g o k wr.heap.size w.heap.size x p) rfl
                ⟨fun a' W' hC hF => ?_, fun a' W' hC hF => ?_, fun a' W' hC hF => ?_, fun a' W' hC hF => ?_, fun a' W' hC hF => ?_, fun a' W' hC hF => ?_, fun a' W' hC hF => ?_, fun a' W' hC hF => ?_, fun a' W' hC hF => ?_, fun a' W' hC hF => ?_, fun a' W' hC hF => ?_, fun a' W' hC hF => ?_, fun a' W' hC hF => ?_, fun a' W' hC hF => ?_, fun a' W' hC hF => ?_, fun a' W' hC hF => ?_, fun a' W' hC hF => ?_, fun a' W' hC hF => ?_, fun a' W' hC hF => ?_, fun a' W' hC hF => ?_, fun a' W' hC hF => ?_, fun a' W' hC hF => ?_, fun a' W' hC hF => ?_, fun a' W' hC hF => ?_, fun a' W' hC hF => ?_, fun a' W' hC hF => ?_, fun a' W' hC hF => ?_, fun a' W' hC hF => ?_, fun a' W' hC hF => ?_, fun a' W' hC hF => ?_, fun a' W' hC hF => ?_, fun a' W' hC hF => ?_, fun a' W' hC hF => ?_, fun a' W' hC hF => ?_, trivial⟩ ?_
              · exact Tl.sm_v 33 _ rfl (Tl.wanted_none rfl) hC rfl (rn_move rfl ((hF 2 (by decide +kernel)).2 (by decide)))
              · exact Tl.sm_v 34 _ rfl (Tl.wanted_none rfl) hC rfl (rn_move rfl ((hF 8 (by decide +kernel)).2 (by decide)))
              · exact Tl.sm_v 35 _ rfl (Tl.wanted_none rfl) hC rfl (rn_ix35 rfl ((hF 33 (by decide +kernel)).1 (by decide)) ((hF 34 (by decide +kernel)).1 (by decide)) hk1)
              · exact Tl.sm_v 36 _ rfl (Tl.wanted_none rfl) hC rfl (rn_f41_0 rfl ((hF 35 (by decide +kernel)).1 (by decide)))
              · exact Tl.sm_v 37 _ rfl (Tl.wanted_none rfl) hC rfl (rn_load5 rfl ((hF 36 (by decide +kernel)).1 (by decide)) (by rw [show W' = _ from hC]; exact c0))
              · exact Tl.sm_v 38 _ rfl (Tl.wanted_none rfl) hC rfl (rn_rem5 rfl ((hF 37 (by decide +kernel)).1 (by decide)) rfl )
              · exact Tl.sm_v 39 _ rfl (Tl.wanted_none rfl) hC rfl (rn_eql5 rfl ((hF 38 (by decide +kernel)).1 (by decide)) rfl e39)
              · exact Tl.sm_v 40 _ rfl (Tl.wanted_none rfl) hC rfl (rn_move rfl ((hF 39 (by decide +kernel)).1 (by decide)))
              · exact Tl.sm_v 41 _ rfl (Tl.wanted_is rfl rfl ((hF 40 (by decide +kernel)).1 (by decide))) hC rfl (rn_f28_0 rfl ((hF 9 (by decide +kernel)).2 (by decide)))
              · exact Tl.sm_v 42 _ rfl (Tl.wanted_is rfl rfl ((hF 40 (by decide +kernel)).1 (by decide))) hC rfl (rn_load9 rfl ((hF 41 (by decide +kernel)).1 (by decide)) (by rw [show W' = _ from hC]; exact n9))
              · exact Tl.sm_v 43 _ rfl (Tl.wanted_is rfl rfl ((hF 40 (by decide +kernel)).1 (by decide))) hC rfl (rn_f28_0 rfl ((hF 3 (by decide +kernel)).2 (by decide)))
              · exact Tl.sm_v 44 _ rfl (Tl.wanted_is rfl rfl ((hF 40 (by decide +kernel)).1 (by decide))) hC rfl (rn_load9 rfl ((hF 43 (by decide +kernel)).1 (by decide)) (by rw [show W' = _ from hC]; exact n3))
              · exact Tl.sm_v 45 _ rfl (Tl.wanted_is rfl rfl ((hF 40 (by decide +kernel)).1 (by decide))) hC rfl (rn_eql9 rfl ((hF 42 (by decide +kernel)).1 (by decide)) ((hF 44 (by decide +kernel)).1 (by decide)) e45)
              · exact Tl.sm_v 46 _ rfl (Tl.wanted_none rfl) hC rfl (rn_pickT rfl ((hF 40 (by decide +kernel)).1 (by decide)) ((hF 45 (by decide +kernel)).1 (by decide)))
              · exact Tl.sm_v 47 _ rfl (Tl.wanted_none rfl) hC rfl (rn_move rfl ((hF 46 (by decide +kernel)).1 (by decide)))
              · exact Tl.sm_skip (Tl.wanted_not rfl rfl ((hF 47 (by decide +kernel)).1 (by decide))) (fun d hd => by cases hd; trivial)
              · exact Tl.sm_skip (Tl.wanted_not rfl rfl ((hF 47 (by decide +kernel)).1 (by decide))) (fun d hd => by cases hd; trivial)
              · exact Tl.sm_skip (Tl.wanted_not rfl rfl ((hF 47 (by decide +kernel)).1 (by decide))) (fun d hd => by cases hd; trivial)
              · exact Tl.sm_skip (Tl.wanted_not rfl rfl ((hF 47 (by decide +kernel)).1 (by decide))) (fun d hd => by cases hd; trivial)
              · exact Tl.sm_skip (Tl.wanted_not rfl rfl ((hF 47 (by decide +kernel)).1 (by decide))) (fun d hd => by cases hd; trivial)
              · exact Tl.sm_skip (Tl.wanted_not rfl rfl ((hF 47 (by decide +kernel)).1 (by decide))) (fun d hd => by cases hd; trivial)
              · exact Tl.sm_skip (Tl.wanted_not rfl rfl ((hF 47 (by decide +kernel)).1 (by decide))) (fun d hd => by cases hd; trivial)
              · exact Tl.sm_v 55 _ rfl (Tl.wanted_none rfl) hC rfl (rn_pickF rfl ((hF 47 (by decide +kernel)).1 (by decide)) rfl)
              · exact Tl.sm_v 56 _ rfl (Tl.wanted_none rfl) hC rfl (rn_move rfl ((hF 55 (by decide +kernel)).1 (by decide)))
              · exact Tl.sm_skip (Tl.wanted_not rfl rfl ((hF 56 (by decide +kernel)).1 (by decide))) (fun d hd => by cases hd; trivial)
              · exact Tl.sm_skip (Tl.wanted_not rfl rfl ((hF 56 (by decide +kernel)).1 (by decide))) (fun d hd => by cases hd; trivial)
              · exact Tl.sm_skip (Tl.wanted_not rfl rfl ((hF 56 (by decide +kernel)).1 (by decide))) (fun d hd => by cases hd; trivial)
              · exact Tl.sm_skip (Tl.wanted_not rfl rfl ((hF 56 (by decide +kernel)).1 (by decide))) (fun d hd => by cases hd; trivial)
              · exact Tl.sm_skip (Tl.wanted_not rfl rfl ((hF 56 (by decide +kernel)).1 (by decide))) (fun d hd => by cases hd; trivial)
              · exact Tl.sm_skip (Tl.wanted_not rfl rfl ((hF 56 (by decide +kernel)).1 (by decide))) (fun d hd => by cases hd; trivial)
              · exact Tl.sm_skip (Tl.wanted_not rfl rfl ((hF 56 (by decide +kernel)).1 (by decide))) (fun d hd => by cases hd; trivial)
              · exact Tl.sm_skip (Tl.wanted_not rfl rfl ((hF 56 (by decide +kernel)).1 (by decide))) (fun d hd => by cases hd; trivial)
              · exact Tl.sm_skip (Tl.wanted_not rfl rfl ((hF 56 (by decide +kernel)).1 (by decide))) (fun d hd => by cases hd; trivial)
              · exact Tl.sm_v 66 _ rfl (Tl.wanted_none rfl) hC rfl (rn_pickF rfl ((hF 56 (by decide +kernel)).1 (by decide)) rfl)
              intro v wB hw hv
              obtain rfl : wB = _ := hw
              have v66 : v 66 = .bool false := hv 66 (by decide)
              clear hv
              simp only [Tl.fill, List.drop_succ_cons, List.drop_zero, wpList]
              have HNX := HN.out (fun h => hnm h.2.1)
              simp only [Act.put, List.setIfInBounds_toArray, List.set_cons_succ, List.set_cons_zero, v66]
              clear v66 c0 n9 d9 n3 d3
              go_wp2_with fail
              go_roundg g1
              case measure => omega
              case rel => exact ⟨k + 1, by omega, by first | rfl | simp, hid HNX, HBW2.out.drew⟩
          · have e39 : decide (((x.kind % 2 : Nat) : Int) = 0) = false := decide_eq_false (by omega)
            refine Tl.wp_mix_lit (by kernel_rfl) 34 [33, 34, 35, 36, 37, 38, 39, 40, 41, 42, 43, 44, 45, 46, 47, 48, 49, 50, 51, 52, 53, 54, 55, 56, 57, 58, 59, 60, 61, 62, 63, 64, 65, 66] 67 rfl (by kernel_rfl) (AtW (wr.alloc (.cells #[.string x.name, .string x.data] 28)).drew) (frF0 (.slice (some ⟨g, o, none⟩) L cap) g o k wr.heap.size w.heap.size x p) rfl
              ⟨fun a' W' hC hF => ?_, fun a' W' hC hF => ?_, fun a' W' hC hF => ?_, fun a' W' hC hF => ?_, fun a' W' hC hF => ?_, fun a' W' hC hF => ?_, fun a' W' hC hF => ?_, fun a' W' hC hF => ?_, fun a' W' hC hF => ?_, fun a' W' hC hF => ?_, fun a' W' hC hF => ?_, fun a' W' hC hF => ?_, fun a' W' hC hF => ?_, fun a' W' hC hF => ?_, fun a' W' hC hF => ?_, fun a' W' hC hF => ?_, fun a' W' hC hF => ?_, fun a' W' hC hF => ?_, fun a' W' hC hF => ?_, fun a' W' hC hF => ?_, fun a' W' hC hF => ?_, fun a' W' hC hF => ?_, fun a' W' hC hF => ?_, fun a' W' hC hF => ?_, fun a' W' hC hF => ?_, fun a' W' hC hF => ?_, fun a' W' hC hF => ?_, fun a' W' hC hF => ?_, fun a' W' hC hF => ?_, fun a' W' hC hF => ?_, fun a' W' hC hF => ?_, fun a' W' hC hF => ?_, fun a' W' hC hF => ?_, fun a' W' hC hF => ?_, trivial⟩ ?_
            · exact Tl.sm_v 33 _ rfl (Tl.wanted_none rfl) hC rfl (rn_move rfl ((hF 2 (by decide +kernel)).2 (by decide)))
            · exact Tl.sm_v 34 _ rfl (Tl.wanted_none rfl) hC rfl (rn_move rfl ((hF 8 (by decide +kernel)).2 (by decide)))
            · exact Tl.sm_v 35 _ rfl (Tl.wanted_none rfl) hC rfl (rn_ix35 rfl ((hF 33 (by decide +kernel)).1 (by decide)) ((hF 34 (by decide +kernel)).1 (by decide)) hk1)
            · exact Tl.sm_v 36 _ rfl (Tl.wanted_none rfl) hC rfl (rn_f41_0 rfl ((hF 35 (by decide +kernel)).1 (by decide)))
            · exact Tl.sm_v 37 _ rfl (Tl.wanted_none rfl) hC rfl (rn_load5 rfl ((hF 36 (by decide +kernel)).1 (by decide)) (by rw [show W' = _ from hC]; exact c0))
            · exact Tl.sm_v 38 _ rfl (Tl.wanted_none rfl) hC rfl (rn_rem5 rfl ((hF 37 (by decide +kernel)).1 (by decide)) rfl )
            · exact Tl.sm_v 39 _ rfl (Tl.wanted_none rfl) hC rfl (rn_eql5 rfl ((hF 38 (by decide +kernel)).1 (by decide)) rfl e39)
            · exact Tl.sm_v 40 _ rfl (Tl.wanted_none rfl) hC rfl (rn_move rfl ((hF 39 (by decide +kernel)).1 (by decide)))
            · exact Tl.sm_skip (Tl.wanted_not rfl rfl ((hF 40 (by decide +kernel)).1 (by decide))) (fun d hd => by cases hd; trivial)
            · exact Tl.sm_skip (Tl.wanted_not rfl rfl ((hF 40 (by decide +kernel)).1 (by decide))) (fun d hd => by cases hd; trivial)
            · exact Tl.sm_skip (Tl.wanted_not rfl rfl ((hF 40 (by decide +kernel)).1 (by decide))) (fun d hd => by cases hd; trivial)
            · exact Tl.sm_skip (Tl.wanted_not rfl rfl ((hF 40 (by decide +kernel)).1 (by decide))) (fun d hd => by cases hd; trivial)
            · exact Tl.sm_skip (Tl.wanted_not rfl rfl ((hF 40 (by decide +kernel)).1 (by decide))) (fun d hd => by cases hd; trivial)
            · exact Tl.sm_v 46 _ rfl (Tl.wanted_none rfl) hC rfl (rn_pickF rfl ((hF 40 (by decide +kernel)).1 (by decide)) rfl)
            · exact Tl.sm_v 47 _ rfl (Tl.wanted_none rfl) hC rfl (rn_move rfl ((hF 46 (by decide +kernel)).1 (by decide)))
            · exact Tl.sm_skip (Tl.wanted_not rfl rfl ((hF 47 (by decide +kernel)).1 (by decide))) (fun d hd => by cases hd; trivial)
            · exact Tl.sm_skip (Tl.wanted_not rfl rfl ((hF 47 (by decide +kernel)).1 (by decide))) (fun d hd => by cases hd; trivial)
            · exact Tl.sm_skip (Tl.wanted_not rfl rfl ((hF 47 (by decide +kernel)).1 (by decide))) (fun d hd => by cases hd; trivial)
            · exact Tl.sm_skip (Tl.wanted_not rfl rfl ((hF 47 (by decide +kernel)).1 (by decide))) (fun d hd => by cases hd; trivial)
            · exact Tl.sm_skip (Tl.wanted_not rfl rfl ((hF 47 (by decide +kernel)).1 (by decide))) (fun d hd => by cases hd; trivial)
            · exact Tl.sm_skip (Tl.wanted_not rfl rfl ((hF 47 (by decide +kernel)).1 (by decide))) (fun d hd => by cases hd; trivial)
            · exact Tl.sm_skip (Tl.wanted_not rfl rfl ((hF 47 (by decide +kernel)).1 (by decide))) (fun d hd => by cases hd; trivial)
            · exact Tl.sm_v 55 _ rfl (Tl.wanted_none rfl) hC rfl (rn_pickF rfl ((hF 47 (by decide +kernel)).1 (by decide)) rfl)
            · exact Tl.sm_v 56 _ rfl (Tl.wanted_none rfl) hC rfl (rn_move rfl ((hF 55 (by decide +kernel)).1 (by decide)))
            · exact Tl.sm_skip (Tl.wanted_not rfl rfl ((hF 56 (by decide +kernel)).1 (by decide))) (fun d hd => by cases hd; trivial)
            · exact Tl.sm_skip (Tl.wanted_not rfl rfl ((hF 56 (by decide +kernel)).1 (by decide))) (fun d hd => by cases hd; trivial)
            · exact Tl.sm_skip (Tl.wanted_not rfl rfl ((hF 56 (by decide +kernel)).1 (by decide))) (fun d hd => by cases hd; trivial)
            · exact Tl.sm_skip (Tl.wanted_not rfl rfl ((hF 56 (by decide +kernel)).1 (by decide))) (fun d hd => by cases hd; trivial)
            · exact Tl.sm_skip (Tl.wanted_not rfl rfl ((hF 56 (by decide +kernel)).1 (by decide))) (fun d hd => by cases hd; trivial)
            · exact Tl.sm_skip (Tl.wanted_not rfl rfl ((hF 56 (by decide +kernel)).1 (by decide))) (fun d hd => by cases hd; trivial)
            · exact Tl.sm_skip (Tl.wanted_not rfl rfl ((hF 56 (by decide +kernel)).1 (by decide))) (fun d hd => by cases hd; trivial)
            · exact Tl.sm_skip (Tl.wanted_not rfl rfl ((hF 56 (by decide +kernel)).1 (by decide))) (fun d hd => by cases hd; trivial)
            · exact Tl.sm_skip (Tl.wanted_not rfl rfl ((hF 56 (by decide +kernel)).1 (by decide))) (fun d hd => by cases hd; trivial)
            · exact Tl.sm_v 66 _ rfl (Tl.wanted_none rfl) hC rfl (rn_pickF rfl ((hF 56 (by decide +kernel)).1 (by decide)) rfl)
            intro v wB hw hv
            obtain rfl : wB = _ := hw
            have v66 : v 66 = .bool false := hv 66 (by decide)
            clear hv
            simp only [Tl.fill, List.drop_succ_cons, List.drop_zero, wpList]
            have HNX := HN.out (fun h => hev h.1)
            simp only [Act.put, List.setIfInBounds_toArray, List.set_cons_succ, List.set_cons_zero, v66]
            clear v66 c0 n9 d9 n3 d3
            go_wp2_with fail
            go_roundg g1
            case measure => omega
            case rel => exact ⟨k + 1, by omega, by first | rfl | simp, hid HNX, HBW2.out.drew⟩
    | succ g1 =>
      have q1 : (k : Int) < (An : Int) := by omega
      have hk1 : k < An := by omega
      obtain ⟨r, hr⟩ : ∃ r, A[k]? = some r := ⟨_, List.getElem?_eq_getElem (by rw [HAn.out]; exact hk1)⟩
      obtain ⟨ga, ca', ea, d0, d1⟩ := ob_cells (row_below (by rw [HAn.out]; exact HA.out) (H0.out.trans (hbw.mono H0.out.size))) hr
      rw [HAn.out] at ea
      cases ea
      obtain ⟨b0, b1⟩ := Below.two HH.out hbw
      have HS := hid (show r ≠ p → ∀ r ∈ A.take (k + 1), r ≠ p from fun h r' hr' => by
        rw [List.take_add_one, hr] at hr'
        rcases List.mem_append.1 hr' with h' | h'
        · exact HT.out r' h'
        · simp at h'; rw [h']; exact h)
      have HY := hid (show r = p → fromB p A l = true from fun h => HI.out.2 (.inl ⟨r, List.mem_of_getElem? hr, h⟩))
      clear hr hbw HT
      go_wp2_with fail
      refine Tl.wp_mix_lit (by kernel_rfl) 6 [16, 17, 18, 19, 20, 21] 67 rfl (by kernel_rfl) (AtW wr.drew) (frA (.slice (some ⟨ga, 0, none⟩) An ca) ga k r p) rfl
        ⟨fun a' W' hC hF => ?_, fun a' W' hC hF => ?_, fun a' W' hC hF => ?_, fun a' W' hC hF => ?_, fun a' W' hC hF => ?_, fun a' W' hC hF => ?_, trivial⟩ ?_
      · exact Tl.sm_v 16 _ rfl (Tl.wanted_none rfl) hC rfl (rn_move rfl ((hF 1 (by decide +kernel)).2 (by decide)))
      · exact Tl.sm_v 17 _ rfl (Tl.wanted_none rfl) hC rfl (rn_move rfl ((hF 7 (by decide +kernel)).2 (by decide)))
      · exact Tl.sm_v 18 _ rfl (Tl.wanted_none rfl) hC rfl (rn_ix45 rfl ((hF 16 (by decide +kernel)).1 (by decide)) ((hF 17 (by decide +kernel)).1 (by decide)) hk1)
      · exact Tl.sm_v 19 _ rfl (Tl.wanted_none rfl) hC rfl (rn_load28 rfl ((hF 18 (by decide +kernel)).1 (by decide)) (by rw [show W' = _ from hC]; exact d0) (by rw [show W' = _ from hC]; exact d1))
      · exact Tl.sm_v 20 _ rfl (Tl.wanted_none rfl) hC rfl (rn_load28 rfl ((hF 3 (by decide +kernel)).2 (by decide)) (g := w.heap.size) (k := 0) (by rw [show W' = _ from hC]; exact b0) (by rw [show W' = _ from hC]; exact b1))
      · exact Tl.sm_v 21 _ rfl (Tl.wanted_none rfl) hC rfl (rn_eql28 rfl ((hF 19 (by decide +kernel)).1 (by decide)) ((hF 20 (by decide +kernel)).1 (by decide)) )
      intro v wB hw hv
      obtain rfl : wB = _ := hw
      have v21 : v 21 = .bool (decide (r = p)) := hv 21 (by decide)
      clear hv
      simp only [Tl.fill, List.drop_succ_cons, List.drop_zero, wpList]
      by_cases hrp : r = p
      · rw [decide_eq_true hrp] at v21
        have HY' := hid (HY.out hrp)
        simp only [Act.put, List.setIfInBounds_toArray, List.set_cons_succ, List.set_cons_zero, v21]
        clear hrp v21 d0 d1 b0 b1
        go_wp2_with fail
        go_ret
        exact ⟨by rw [HY'.out]; rfl, (H0.out.trans (HBW.out.mono H0.out.size)).drew⟩
      · rw [decide_eq_false hrp] at v21
        have HS' := hid (HS.out hrp)
        simp only [Act.put, List.setIfInBounds_toArray, List.set_cons_succ, List.set_cons_zero, v21]
        clear hrp v21 d0 d1 b0 b1
        go_wp2_with fail
        go_roundg g1
        case measure => omega
        case rel => exact ⟨k + 1, by omega, by first | rfl | simp, HS', HBW.out.drew⟩
end Go.Proofs.Ytpeeelnkelnlkaa
