/- The walk of PackBack. -/
import Derived.Test.YtfebelcdffknkaaLess
import Derived.Deep.Cut
import Derived.Deep.CutRange
namespace Go.Proofs.Ytfebelcdffknkaa
open Go.RowKit Go.Maps
open Pk
set_option linter.unusedVariables false
set_option maxRecDepth 20000 in
set_option maxHeartbeats 4000000 in
/-- what is too much is not gone through -/
theorem back_far (l : List ByteArray) (A : Option Addr) (cap : Nat) (b : ByteArray) (n : Int) (w : World) (h : Tx w A l) (hl : l.length ≤ 9223372036854775807) (hz : ∀ s ∈ l, s.size ≤ 9223372036850000000) (hf : lgB l = true ∨ 20000 < b.size) :
    Calls Try.prog 6 #[.slice A l.length cap, .string b, .int .i64 n] w fun e w' => e = .returned (.bool true) ∧ Below w.heap.size w w' := by
  have HL := hid h
  have C0 := fun W (h : Tx W A l) => large_any l A cap W h hl hz
  cases hg : lgB l with
  | true =>
    rw [hg] at C0
    clear hz h hg hf
    generalize l.length = m at *
    go_enter Try.func6, Try.ntmps6
    go_wp2_with fail
    refine (works_true _).mono ?_
    rintro e w1 ⟨rfl, b1⟩
    have B1 := hid b1
    clear b1
    go_wp2_with fail
    refine (C0 _ (HL.out.below B1.out)).mono ?_
    rintro e w2 ⟨rfl, b2⟩
    have B2 := hid (B1.out.trans (b2.mono B1.out.size))
    clear b2 B1 C0
    go_wp2_with fail
    refine (works_true _).mono ?_
    rintro e w3 ⟨rfl, b3⟩
    have B3 := hid (B2.out.trans (b3.mono B2.out.size))
    clear b3 B2
    go_wp2_with fail
    go_ret
    exact ⟨rfl, B3.out⟩
  | false =>
    rw [hg] at C0
    have d1 : decide ((20000 : Int) < (b.size : Int)) = true := by
      rcases hf with h | h
      · rw [hg] at h; cases h
      · simp; omega
    clear hz h hg hf
    generalize l.length = m at *
    go_enter Try.func6, Try.ntmps6
    go_wp2_with fail
    refine (works_true _).mono ?_
    rintro e w1 ⟨rfl, b1⟩
    have B1 := hid b1
    clear b1
    go_wp2_with fail
    refine (C0 _ (HL.out.below B1.out)).mono ?_
    rintro e w2 ⟨rfl, b2⟩
    have B2 := hid (B1.out.trans (b2.mono B1.out.size))
    clear b2 B1 C0
    go_wp2_with fail
    refine (works_true _).mono ?_
    rintro e w3 ⟨rfl, b3⟩
    have B3 := hid (B2.out.trans (b3.mono B2.out.size))
    clear b3 B2
    go_wp2_with fail
    go_ret
    exact ⟨rfl, B3.out⟩
theorem back_blob {l : List ByteArray} (hM : May (l.map bs)) : toldS (ofBs (blob (l.map bs))) = l :=
  map_bs_inj (told_blob hM (bs_ofBs _ (blob_lt _)))
theorem back_size {l : List ByteArray} : (ofBs (blob (l.map bs))).size = 6 + 2 * l.length + tot l := by
  rw [ofBs_size, blob_len, List.length_map]; rfl
theorem back_part {l : List ByteArray} (k : Nat) (h : k < l.length) : (ofBs (blob (l.map bs))).extract (6 + 2 * l.length + tot (l.take k)) (6 + 2 * l.length + tot (l.take k) + (l.getD k ⟨#[]⟩).size) = l.getD k ⟨#[]⟩ := by
  apply bs_inj
  have h1 := blob_chunk (l.map bs) k (by rw [List.length_map]; exact h)
  have e1 : total ((l.map bs).take k) = tot (l.take k) := by unfold tot; rw [List.map_take]
  have e2 : (l.map bs)[k]'(by rw [List.length_map]; exact h) = bs (l.getD k ⟨#[]⟩) := by
    rw [List.getElem_map, List.getD_eq_getElem?_getD, List.getElem?_eq_getElem h]; rfl
  rw [e1, e2, List.length_map, bs_length] at h1
  rw [bs_extract, bs_ofBs _ (blob_lt _), List.drop_take, Nat.add_sub_cancel_left]
  exact h1
/-- what Read tells of bytes: a pack's chunks, or none -/
def RdOk (w : World) (b : ByteArray) (L : List ByteArray) (A B : Option Addr) (er : Nat) : Prop :=
  (er = 0 ∧ May (L.map bs) ∧ ofBs (blob (L.map bs)) = b ∧ Tx w A L ∧ Is w B (at' (L.map bs))) ∨ er = 4
theorem read_gen (b : ByteArray) (hb : b.size ≤ 500000) (w : World) : Calls Try.prog 10 #[.string b] w fun e w' => ∃ (L : List ByteArray) (A B : Option Addr) (c d er : Nat), e = .returned (.tuple #[.slice A L.length c, .slice B L.length d, .int .i64 (er : Int)]) ∧ RdOk w' b L A B er ∧ Below w.heap.size w w' := by
  by_cases hE : ∃ c, May c ∧ bs b = blob c
  · obtain ⟨c, hM, hc⟩ := hE
    have ht := told_blob hM hc
    refine (read_yes b hb c hM hc w).mono ?_
    rintro e w' ⟨g, g', rfl, h1, h2, h3⟩
    exact ⟨toldS b, _, _, _, _, 0, rfl, .inl ⟨rfl, by rw [ht]; exact hM, by rw [ht, ← hc, ofBs_bs], h1, by rw [ht]; exact h2⟩, h3⟩
  · refine (read_no b hb (fun c hc e => hE ⟨c, hc, e⟩) w).mono ?_
    rintro e w' ⟨rfl, h3⟩
    exact ⟨[], none, none, 0, 0, 4, rfl, .inr rfl, h3⟩
set_option maxRecDepth 20000 in
set_option maxHeartbeats 8000000 in
theorem back_not (l : List ByteArray) (A : Option Addr) (cap : Nat) (b : ByteArray) (n : Int) (w : World) (h : Tx w A l) (hl : l.length ≤ 9223372036854775807) (hz : ∀ s ∈ l, s.size ≤ 9223372036850000000) (hg : lgB l = false) (hb : b.size ≤ 20000) (hM : ¬ May (l.map bs)) :
    Calls Try.prog 6 #[.slice A l.length cap, .string b, .int .i64 n] w fun e w' => e = .returned (.bool true) ∧ Below w.heap.size w w' := by
  have HL := hid h
  obtain ⟨h1, h2⟩ := lgB_no hg
  have C0 := fun W (h : Tx W A l) => large_any l A cap W h hl hz
  rw [hg] at C0
  have C1 := fun W (h : Tx W A l) => make_no l A cap W h (by omega) (by omega) hM
  have C2 := fun W (h : Tx W A l) => may_any l A cap W h (by omega) (by omega)
  rw [mayB_no hM] at C2
  have d1 : decide ((20000 : Int) < (b.size : Int)) = false := by simp; omega
  have CR := fun W => read_gen b (by omega) W
  generalize l.length = m at *
  clear hz h hg hM h1 h2 hl
  go_enter Try.func6, Try.ntmps6
  go_wp2_with fail
  refine (works_true _).mono ?_
  rintro e w1 ⟨rfl, b1⟩
  have B1 := hid b1
  clear b1
  go_wp2_with fail
  refine (C0 _ (HL.out.below B1.out)).mono ?_
  rintro e w2 ⟨rfl, b2⟩
  have B2 := hid (B1.out.trans (b2.mono B1.out.size))
  clear b2 B1 C0
  go_wp2_with fail
  refine (CR _).mono ?_
  rintro e w3 ⟨L, A1, A2, x1, x2, er, rfl, hR, b3⟩
  have B3 := hid (B2.out.trans (b3.mono B2.out.size))
  have HR := hid hR
  clear b3 B2 hR CR
  go_upto_if 40 with fail
  go_cut [10, 11, 12] from 41 to 59 (fun _ _ _ wx => Below w.heap.size w wx)
  case first =>
    rcases HR.out with ⟨rfl, hM1, hbl, t1, i1⟩ | rfl
    · have T1 := hid t1
      have I1 := hid i1
      have CM := make_yes L A1 x1 w3 t1 hM1
      rw [hbl] at CM
      have CI := fun W B1 B2 c1 c2 (h1 : Is W B1 (at' (L.map bs))) (h2 : Is W B2 (at' (L.map bs))) => ints_any (at' (L.map bs)) B1 B2 c1 c2 W h1 h2 (by rw [at_len]; have := (may_tot hM1).1; omega)
      rw [at_len] at CI
      generalize at' (L.map bs) = z at *
      generalize L.length = q at *
      clear t1 i1 hbl hM1 HR
      go_wp2_with fail
      refine CM.mono ?_
      rintro e w4 ⟨g, rfl, i2, b4⟩
      have B4 := hid (B3.out.trans (b4.mono B3.out.size))
      have I2 := hid i2
      have I3 := hid (I1.out.below b4)
      clear b4 i2 CM I1 B3
      go_wp2_with fail
      refine (CI _ _ _ _ _ I3.out I2.out).mono ?_
      rintro e w5 ⟨rfl, b5⟩
      have B5 := hid (B4.out.trans (b5.mono B4.out.size))
      clear b5 CI I3 I2 B4
      go_wp2_with fail
      go_meet
      exact B5.out
    · clear HR
      go_wp2_with fail
      go_meet
      exact B3.out
  case rest =>
    go_wp2_with fail
    refine (C1 _ (HL.out.below hcut)).mono ?_
    rintro e w4 ⟨rfl, b4⟩
    have B4 := hid (hcut.trans (b4.mono hcut.size))
    clear b4 C1
    go_wp2_with fail
    refine (C2 _ (HL.out.below B4.out)).mono ?_
    rintro e w5 ⟨rfl, b5⟩
    have B5 := hid (B4.out.trans (b5.mono B4.out.size))
    clear b5 B4
    go_wp2_with fail
    refine (C2 _ (HL.out.below B5.out)).mono ?_
    rintro e w6 ⟨rfl, b6⟩
    have B6 := hid (B5.out.trans (b6.mono B5.out.size))
    clear b6 B5
    go_wp2_with fail
    go_ret
    exact ⟨rfl, B6.out⟩
theorem getD_ints (z : List Nat) (k : Nat) (h : k < z.length) {w : World} {g : Nat} (hI : Is w (some ⟨g, 0, none⟩) z) : w.cell? ⟨g, k, none⟩ = some (.int .i64 ((z.getD k 0 : Nat) : Int)) := by
  obtain ⟨g', o, e, hg, hc⟩ := hI k h
  cases e
  rw [Nat.zero_add] at hc
  exact hc
section
variable {ev : Operand → Value} {o : Oper} {w : World} {x y z : Operand}
theorem rn_load3 {g k : Nat} {v : Value} (ho : o.op = .load 3 x) (hx : ev x = .pointer (some ⟨g, k, none⟩)) (hc : w.cell? ⟨g, k, none⟩ = some v) : (execOp ev o).run Try.prog w = .ok (.value v) w := by
  simp [execOp, ho, hx, go_sem, hc]
theorem rn_ix25 {g n c i : Nat} (ho : o.op = .indexAddr 25 x y) (hx : ev x = .slice (some ⟨g, 0, none⟩) n c) (hy : ev y = .int .i64 (i : Int)) (hi : i < n) : (execOp ev o).run Try.prog w = .ok (.value (.pointer (some ⟨g, i, none⟩))) w := by
  have q1 : (i : Int) < (n : Int) := by omega
  simp [execOp, ho, hx, hy, go_sem, q1]
theorem rn_ixo {g f n c i : Nat} (ho : o.op = .indexAddr 24 x y) (hx : ev x = .slice (some ⟨g, f, none⟩) n c) (hy : ev y = .int .i64 (i : Int)) (hi : i < n) : (execOp ev o).run Try.prog w = .ok (.value (.pointer (some ⟨g, f + i, none⟩))) w := by
  have q1 : (i : Int) < (n : Int) := by omega
  simp [execOp, ho, hx, hy, go_sem, q1]
theorem rn_add3 {u v s : Int} (ho : o.op = .binOp .add 3 x y 3) (hx : ev x = .int .i64 u) (hy : ev y = .int .i64 v) (hz : IntKind.i64.wrap (u + v) = s) : (execOp ev o).run Try.prog w = .ok (.value (.int .i64 s)) w := by
  subst hz; simp [execOp, ho, hx, hy, go_sem]
theorem rn_gtr3 {u v : Int} {c : Bool} (ho : o.op = .binOp .gtr 3 x y 3) (hx : ev x = .int .i64 u) (hy : ev y = .int .i64 v) (hc : decide (v < u) = c) : (execOp ev o).run Try.prog w = .ok (.value (.bool c)) w := by
  subst hc; simp [execOp, ho, hx, hy, go_sem]
theorem rn_sl9 {A p : ByteArray} {lo hi : Nat} (ho : o.op = .slice 9 x (some y) (some z) none) (hx : ev x = .string A) (hy : ev y = .int .i64 (lo : Int)) (hz : ev z = .int .i64 (hi : Int)) (h1 : lo ≤ hi) (h2 : hi ≤ A.size) (hp : A.extract lo hi = p) : (execOp ev o).run Try.prog w = .ok (.value (.string p)) w := by
  subst hp
  have q1 : (lo : Int) ≤ (hi : Int) := by omega
  have q2 : (hi : Int) ≤ (A.size : Int) := by omega
  simp [execOp, ho, hx, hy, hz, go_sem, q1, q2]
theorem rn_neqS {u : ByteArray} (ho : o.op = .binOp .neq 9 x y 9) (hx : ev x = .string u) (hy : ev y = .string u) : (execOp ev o).run Try.prog w = .ok (.value (.bool false)) w := by
  simp [execOp, ho, hx, hy, go_sem]
end
/-- what the slots of the places' test hold -/
def bkV (g m k f g1 o1 cap e : Nat) (s D : ByteArray) : Nat → Value
  | 115 => .slice (some ⟨g, 0, none⟩) m m
  | 116 => .int .i64 (k : Int)
  | 117 => .pointer (some ⟨g, k, none⟩)
  | 118 => .int .i64 (f : Int)
  | 119 => .int .i64 (f : Int)
  | 120 => .bool false
  | 121 => .bool false
  | 122 => .int .i64 (f : Int)
  | 123 => .slice (some ⟨g1, o1, none⟩) m cap
  | 124 => .int .i64 (k : Int)
  | 125 => .pointer (some ⟨g1, o1 + k, none⟩)
  | 126 => .string s
  | 127 => .int .i64 (s.size : Int)
  | 128 => .int .i64 (e : Int)
  | 129 => .string D
  | 130 => .int .i64 (D.size : Int)
  | 131 => .bool false
  | 132 => .bool false
  | 133 => .bool false
  | 134 => .string D
  | 135 => .int .i64 (f : Int)
  | 136 => .int .i64 (f : Int)
  | 137 => .slice (some ⟨g1, o1, none⟩) m cap
  | 138 => .int .i64 (k : Int)
  | 139 => .pointer (some ⟨g1, o1 + k, none⟩)
  | 140 => .string s
  | 141 => .int .i64 (s.size : Int)
  | 142 => .int .i64 (e : Int)
  | 143 => .string s
  | 144 => .slice (some ⟨g1, o1, none⟩) m cap
  | 145 => .int .i64 (k : Int)
  | 146 => .pointer (some ⟨g1, o1 + k, none⟩)
  | 147 => .string s
  | 148 => .bool false
  | 149 => .bool false
  | _ => undef
def bkF (g m k f g1 o1 cap e : Nat) (s D : ByteArray) (d : Nat) (v : Value) (_ : World) : Prop := v = bkV g m k f g1 o1 cap e s D d
set_option maxRecDepth 20000 in
set_option maxHeartbeats 20000000 in
theorem back_may (l : List ByteArray) (A : Option Addr) (cap : Nat) (b : ByteArray) (n : Int) (w : World) (h : Tx w A l) (hlc : l.length ≤ cap) (hl : l.length ≤ 9223372036854775807) (hz : ∀ s ∈ l, s.size ≤ 9223372036850000000) (hg : lgB l = false) (hb : b.size ≤ 20000) (hn : -9223372036854775808 ≤ n ∧ n ≤ 9223372036854775807) (hM : May (l.map bs)) :
    Calls Try.prog 6 #[.slice A l.length cap, .string b, .int .i64 n] w fun e w' => e = .returned (.bool true) ∧ Below w.heap.size w w' := by
  obtain ⟨i0, hi, hz0, hz1, hz2⟩ := info_parts info9
  have HL := hid h
  obtain ⟨h1, h2⟩ := lgB_no hg
  have C0 := fun W (h : Tx W A l) => large_any l A cap W h hl hz
  rw [hg] at C0
  have C1 := fun W (h : Tx W A l) => make_yes l A cap W h hM
  have C2 := fun W (h : Tx W A l) => may_any l A cap W h (by omega) (by omega)
  rw [mayB_yes hM] at C2
  have hsz := back_size (l := l)
  have C3 := fun W => read_yes (ofBs (blob (l.map bs))) (by rw [hsz]; omega) (l.map bs) hM (bs_ofBs _ (blob_lt _)) W
  rw [back_blob hM] at C3
  have C4 := fun W B1 c1 c2 (h1 : Tx W B1 l) (h2 : Tx W A l) => texts_any l B1 A c1 c2 W h1 h2 (by omega)
  have C5 := fun W B1 B2 c1 c2 (h1 : Is W B1 (at' (l.map bs))) (h2 : Is W B2 (at' (l.map bs))) => ints_any (at' (l.map bs)) B1 B2 c1 c2 W h1 h2 (by rw [at_len]; omega)
  rw [at_len] at C5
  have HPT := hid (fun k => back_part (l := l) k)
  have HAT := hid (fun k => at_get l k)
  have HAL := hid (at_len l)
  have HMY := hid hM
  have hone := hM.one
  rw [List.length_map] at hone
  have d1 : decide ((20000 : Int) < (b.size : Int)) = false := by simp; omega
  have CR := fun W => read_gen b (by omega) W
  obtain ⟨z, hz'⟩ : ∃ z, z = at' (l.map bs) := ⟨_, rfl⟩
  rw [← hz'] at C1 C3 C5 HAT HAL
  obtain ⟨D, hD⟩ : ∃ D, D = ofBs (blob (l.map bs)) := ⟨_, rfl⟩
  rw [← hD] at C1 C3 HPT hsz
  obtain ⟨m, hm⟩ : ∃ m, m = l.length := ⟨_, rfl⟩
  have HN := hid hm
  rw [← hm] at C0 C1 C2 C3 C4 C5 HPT HAT HAL hsz h2 hone hlc ⊢
  clear hz h hg hM hl hz' hD hm
  go_enter Try.func6, Try.ntmps6
  go_wp2_with fail
  refine (works_true _).mono ?_
  rintro e w1 ⟨rfl, b1⟩
  have B1 := hid b1
  clear b1
  go_wp2_with fail
  refine (C0 _ (HL.out.below B1.out)).mono ?_
  rintro e w2 ⟨rfl, b2⟩
  have B2 := hid (B1.out.trans (b2.mono B1.out.size))
  clear b2 B1 C0
  go_wp2_with fail
  refine (CR _).mono ?_
  rintro e w3 ⟨L, A1, A2, x1, x2, er, rfl, hR, b3⟩
  have B3 := hid (B2.out.trans (b3.mono B2.out.size))
  have HR := hid hR
  clear b3 B2 hR CR
  go_upto_if 40 with fail
  go_cut [10, 11, 12] from 41 to 59 (fun _ _ _ wx => Below w.heap.size w wx)
  case first =>
    rcases HR.out with ⟨rfl, hM1, hbl, t1, i1⟩ | rfl
    · have T1 := hid t1
      have I1 := hid i1
      have CM := make_yes L A1 x1 w3 t1 hM1
      rw [hbl] at CM
      have CI := fun W B1 B2 c1 c2 (h1 : Is W B1 (at' (L.map bs))) (h2 : Is W B2 (at' (L.map bs))) => ints_any (at' (L.map bs)) B1 B2 c1 c2 W h1 h2 (by rw [at_len]; have := (may_tot hM1).1; omega)
      rw [at_len] at CI
      generalize at' (L.map bs) = z at *
      generalize L.length = q at *
      clear t1 i1 hbl hM1 HR
      go_wp2_with fail
      refine CM.mono ?_
      rintro e w4 ⟨g, rfl, i2, b4⟩
      have B4 := hid (B3.out.trans (b4.mono B3.out.size))
      have I2 := hid i2
      have I3 := hid (I1.out.below b4)
      clear b4 i2 CM I1 B3
      go_wp2_with fail
      refine (CI _ _ _ _ _ I3.out I2.out).mono ?_
      rintro e w5 ⟨rfl, b5⟩
      have B5 := hid (B4.out.trans (b5.mono B4.out.size))
      clear b5 CI I3 I2 B4
      go_wp2_with fail
      go_meet
      exact B5.out
    · clear HR
      go_wp2_with fail
      go_meet
      exact B3.out
  case rest =>
    go_wp2_with fail
    refine (C1 _ (HL.out.below hcut)).mono ?_
    rintro e w4 ⟨g, rfl, i4, b4⟩
    have B4 := hid (hcut.trans (b4.mono hcut.size))
    have I4 := hid i4
    clear b4 i4 C1
    go_wp2_with fail
    refine (C2 _ (HL.out.below B4.out)).mono ?_
    rintro e w5 ⟨rfl, b5⟩
    have B5 := hid (B4.out.trans (b5.mono B4.out.size))
    have I5 := hid (I4.out.below b5)
    clear b5 B4 I4 C2
    go_wp2_with fail
    refine (C3 _).mono ?_
    rintro e w6 ⟨g6, g7, rfl, t6, i6, b6⟩
    have B6 := hid (B5.out.trans (b6.mono B5.out.size))
    have I6 := hid (I5.out.below b6)
    have T6 := hid t6
    have J6 := hid i6
    clear b6 B5 I5 t6 i6 C3
    go_wp2_with fail
    refine (C4 _ _ _ _ T6.out (HL.out.below B6.out)).mono ?_
    rintro e w7 ⟨rfl, b7⟩
    have B7 := hid (B6.out.trans (b7.mono B6.out.size))
    have I7 := hid (I6.out.below b7)
    have J7 := hid (J6.out.below b7)
    clear b7 B6 I6 T6 J6 C4
    go_wp2_with fail
    refine (C5 _ _ _ _ _ I7.out J7.out).mono ?_
    rintro e w8 ⟨rfl, b8⟩
    have B8 := hid (B7.out.trans (b8.mono B7.out.size))
    have I8 := hid (I7.out.below b8)
    clear b8 B7 I7 J7 C5
    have c0 := getD_ints z 0 (by rw [HAL.out]; omega) I8.out
    have e0 := HAT.out 0 (by omega)
    rw [List.take_zero] at e0
    obtain ⟨f0, hf0⟩ : ∃ f0, f0 = z.getD 0 0 := ⟨_, rfl⟩
    have HF0 : Hid (f0 = 6 + 2 * m + tot (l.take 0)) := hid (by rw [hf0, e0]; simp)
    rw [← hf0] at c0
    have i0 : (0 : Int) < (m : Int) := by omega
    clear e0 hf0
    go_wp2_with fail
    go_loopw [15, 16] (fun v15 v16 wr => ∃ k f : Nat, k ≤ m ∧ v16 = .int .i64 (k : Int) ∧ v15 = .int .i64 (f : Int) ∧ Hid (f = 6 + 2 * m + tot (l.take k)) ∧ Below w8.heap.size w8 wr) (fun _ v16 _ => m - (intOf v16).toNat)
    case atStart => exact ⟨0, f0, Nat.zero_le _, rfl, rfl, HF0, Below.refl _ _⟩
    case round =>
      clear c0 HF0 i0
      obtain ⟨k, f, hk, rfl, rfl, HF, hB⟩ := hrel
      by_cases hlt : k < m
      · have hkl : k < l.length := by rw [← HN.out]; exact hlt
        obtain ⟨g1, o1, rfl, hg1, c0⟩ := tx_cell HL.out (B8.out.trans (hB.mono B8.out.size)) hkl
        have c1 := getD_ints z k (by rw [HAL.out]; exact hlt) (I8.out.below hB)
        rw [HAT.out k hlt, ← HF.out] at c1
        have hpt := HPT.out k hlt
        have htk := tot_take l k hkl
        have htl := tot_take_le l (k + 1)
        rw [← HF.out] at hpt
        have hfo := HF.out
        obtain ⟨s, hs⟩ : ∃ s, s = l.getD k ⟨#[]⟩ := ⟨_, rfl⟩
        rw [← hs] at c0 hpt htk
        obtain ⟨e, he⟩ : ∃ e, e = f + s.size := ⟨_, rfl⟩
        rw [← he] at hpt
        have HE : Hid (e = 6 + 2 * m + tot (l.take (k + 1))) := hid (by omega)
        have hfe : (f : Int) + (s.size : Int) = (e : Int) := by omega
        have i1 : (k : Int) < (m : Int) := by omega
        have i0 : (0 : Int) ≤ (k : Int) := by omega
        have j1 : (f : Int) ≤ (e : Int) := by omega
        have j2 : (e : Int) ≤ (D.size : Int) := by omega
        have x2 : decide ((D.size : Int) < (e : Int)) = false := by simp; omega
        have hfl : f ≤ 100000 := by omega
        have hel : e ≤ 100000 := by omega
        have wk : IntKind.i64.wrap ((k : Int) + 1) = ((k + 1 : Nat) : Int) := by rw [IntKind.wrap_i64]; omega
        have wfe : IntKind.i64.wrap ((f : Int) + (s.size : Int)) = (e : Int) := by rw [IntKind.wrap_i64]; omega
        have k1 : f ≤ e := by omega
        have k2 : e ≤ D.size := by omega
        have HB := hid hB
        have HDS := hid hsz
        have HT2 := hid h2
        clear hB htk htl hfo hs he hsz h2
        go_wp2_with fail
        refine Tl.wp_mix_lit (by kernel_rfl) 35 [115, 116, 117, 118, 119, 120, 121, 122, 123, 124, 125, 126, 127, 128, 129, 130, 131, 132, 133, 134, 135, 136, 137, 138, 139, 140, 141, 142, 143, 144, 145, 146, 147, 148, 149] 204 rfl (by kernel_rfl) (fun W' => W' = wr.drew) (bkF g m k f g1 o1 cap e s D) rfl
          ⟨fun a' W' hC hF => ?_, fun a' W' hC hF => ?_, fun a' W' hC hF => ?_, fun a' W' hC hF => ?_, fun a' W' hC hF => ?_, fun a' W' hC hF => ?_, fun a' W' hC hF => ?_, fun a' W' hC hF => ?_, fun a' W' hC hF => ?_, fun a' W' hC hF => ?_, fun a' W' hC hF => ?_, fun a' W' hC hF => ?_, fun a' W' hC hF => ?_, fun a' W' hC hF => ?_, fun a' W' hC hF => ?_, fun a' W' hC hF => ?_, fun a' W' hC hF => ?_, fun a' W' hC hF => ?_, fun a' W' hC hF => ?_, fun a' W' hC hF => ?_, fun a' W' hC hF => ?_, fun a' W' hC hF => ?_, fun a' W' hC hF => ?_, fun a' W' hC hF => ?_, fun a' W' hC hF => ?_, fun a' W' hC hF => ?_, fun a' W' hC hF => ?_, fun a' W' hC hF => ?_, fun a' W' hC hF => ?_, fun a' W' hC hF => ?_, fun a' W' hC hF => ?_, fun a' W' hC hF => ?_, fun a' W' hC hF => ?_, fun a' W' hC hF => ?_, fun a' W' hC hF => ?_, trivial⟩ ?_
        · exact Tl.sm_v 115 _ rfl (Tl.wanted_none rfl) hC rfl (rn_move rfl ((hF 8 (by decide +kernel)).2 (by decide)))
        · exact Tl.sm_v 116 _ rfl (Tl.wanted_none rfl) hC rfl (rn_move rfl ((hF 16 (by decide +kernel)).2 (by decide)))
        · exact Tl.sm_v 117 _ rfl (Tl.wanted_none rfl) hC rfl (rn_ix25 rfl ((hF 115 (by decide +kernel)).1 (by decide)) ((hF 116 (by decide +kernel)).1 (by decide)) hlt)
        · exact Tl.sm_v 118 _ rfl (Tl.wanted_none rfl) hC rfl (rn_load3 rfl ((hF 117 (by decide +kernel)).1 (by decide)) (by rw [hC]; exact c1))
        · exact Tl.sm_v 119 _ rfl (Tl.wanted_none rfl) hC rfl (rn_move rfl ((hF 15 (by decide +kernel)).2 (by decide)))
        · exact Tl.sm_v 120 _ rfl (Tl.wanted_none rfl) hC rfl (rn_neq3 rfl ((hF 118 (by decide +kernel)).1 (by decide)) ((hF 119 (by decide +kernel)).1 (by decide)) (by simp))
        · exact Tl.sm_v 121 _ rfl (Tl.wanted_none rfl) hC rfl (rn_move rfl ((hF 120 (by decide +kernel)).1 (by decide)))
        · exact Tl.sm_v 122 _ rfl (Tl.wanted_is rfl rfl ((hF 121 (by decide +kernel)).1 (by decide))) hC rfl (rn_move rfl ((hF 15 (by decide +kernel)).2 (by decide)))
        · exact Tl.sm_v 123 _ rfl (Tl.wanted_is rfl rfl ((hF 121 (by decide +kernel)).1 (by decide))) hC rfl (rn_move rfl ((hF 0 (by decide +kernel)).2 (by decide)))
        · exact Tl.sm_v 124 _ rfl (Tl.wanted_is rfl rfl ((hF 121 (by decide +kernel)).1 (by decide))) hC rfl (rn_move rfl ((hF 16 (by decide +kernel)).2 (by decide)))
        · exact Tl.sm_v 125 _ rfl (Tl.wanted_is rfl rfl ((hF 121 (by decide +kernel)).1 (by decide))) hC rfl (rn_ixo rfl ((hF 123 (by decide +kernel)).1 (by decide)) ((hF 124 (by decide +kernel)).1 (by decide)) hlt)
        · exact Tl.sm_v 126 _ rfl (Tl.wanted_is rfl rfl ((hF 121 (by decide +kernel)).1 (by decide))) hC rfl (rn_load rfl ((hF 125 (by decide +kernel)).1 (by decide)) (by rw [hC]; exact c0))
        · exact Tl.sm_v 127 _ rfl (Tl.wanted_is rfl rfl ((hF 121 (by decide +kernel)).1 (by decide))) hC rfl (rn_len9 rfl ((hF 126 (by decide +kernel)).1 (by decide)) rfl)
        · exact Tl.sm_v 128 _ rfl (Tl.wanted_is rfl rfl ((hF 121 (by decide +kernel)).1 (by decide))) hC rfl (rn_add3 rfl ((hF 122 (by decide +kernel)).1 (by decide)) ((hF 127 (by decide +kernel)).1 (by decide)) wfe)
        · exact Tl.sm_v 129 _ rfl (Tl.wanted_is rfl rfl ((hF 121 (by decide +kernel)).1 (by decide))) hC rfl (rn_move rfl ((hF 13 (by decide +kernel)).2 (by decide)))
        · exact Tl.sm_v 130 _ rfl (Tl.wanted_is rfl rfl ((hF 121 (by decide +kernel)).1 (by decide))) hC rfl (rn_len9 rfl ((hF 129 (by decide +kernel)).1 (by decide)) rfl)
        · exact Tl.sm_v 131 _ rfl (Tl.wanted_is rfl rfl ((hF 121 (by decide +kernel)).1 (by decide))) hC rfl (rn_gtr3 rfl ((hF 128 (by decide +kernel)).1 (by decide)) ((hF 130 (by decide +kernel)).1 (by decide)) x2)
        · exact Tl.sm_v 132 _ rfl (Tl.wanted_none rfl) hC rfl (rn_pickF rfl ((hF 121 (by decide +kernel)).1 (by decide)) ((hF 131 (by decide +kernel)).1 (by decide)))
        · exact Tl.sm_v 133 _ rfl (Tl.wanted_none rfl) hC rfl (rn_move rfl ((hF 132 (by decide +kernel)).1 (by decide)))
        · exact Tl.sm_v 134 _ rfl (Tl.wanted_is rfl rfl ((hF 133 (by decide +kernel)).1 (by decide))) hC rfl (rn_move rfl ((hF 13 (by decide +kernel)).2 (by decide)))
        · exact Tl.sm_v 135 _ rfl (Tl.wanted_is rfl rfl ((hF 133 (by decide +kernel)).1 (by decide))) hC rfl (rn_move rfl ((hF 15 (by decide +kernel)).2 (by decide)))
        · exact Tl.sm_v 136 _ rfl (Tl.wanted_is rfl rfl ((hF 133 (by decide +kernel)).1 (by decide))) hC rfl (rn_move rfl ((hF 15 (by decide +kernel)).2 (by decide)))
        · exact Tl.sm_v 137 _ rfl (Tl.wanted_is rfl rfl ((hF 133 (by decide +kernel)).1 (by decide))) hC rfl (rn_move rfl ((hF 0 (by decide +kernel)).2 (by decide)))
        · exact Tl.sm_v 138 _ rfl (Tl.wanted_is rfl rfl ((hF 133 (by decide +kernel)).1 (by decide))) hC rfl (rn_move rfl ((hF 16 (by decide +kernel)).2 (by decide)))
        · exact Tl.sm_v 139 _ rfl (Tl.wanted_is rfl rfl ((hF 133 (by decide +kernel)).1 (by decide))) hC rfl (rn_ixo rfl ((hF 137 (by decide +kernel)).1 (by decide)) ((hF 138 (by decide +kernel)).1 (by decide)) hlt)
        · exact Tl.sm_v 140 _ rfl (Tl.wanted_is rfl rfl ((hF 133 (by decide +kernel)).1 (by decide))) hC rfl (rn_load rfl ((hF 139 (by decide +kernel)).1 (by decide)) (by rw [hC]; exact c0))
        · exact Tl.sm_v 141 _ rfl (Tl.wanted_is rfl rfl ((hF 133 (by decide +kernel)).1 (by decide))) hC rfl (rn_len9 rfl ((hF 140 (by decide +kernel)).1 (by decide)) rfl)
        · exact Tl.sm_v 142 _ rfl (Tl.wanted_is rfl rfl ((hF 133 (by decide +kernel)).1 (by decide))) hC rfl (rn_add3 rfl ((hF 136 (by decide +kernel)).1 (by decide)) ((hF 141 (by decide +kernel)).1 (by decide)) wfe)
        · exact Tl.sm_v 143 _ rfl (Tl.wanted_is rfl rfl ((hF 133 (by decide +kernel)).1 (by decide))) hC rfl (rn_sl9 rfl ((hF 134 (by decide +kernel)).1 (by decide)) ((hF 135 (by decide +kernel)).1 (by decide)) ((hF 142 (by decide +kernel)).1 (by decide)) k1 k2 hpt)
        · exact Tl.sm_v 144 _ rfl (Tl.wanted_is rfl rfl ((hF 133 (by decide +kernel)).1 (by decide))) hC rfl (rn_move rfl ((hF 0 (by decide +kernel)).2 (by decide)))
        · exact Tl.sm_v 145 _ rfl (Tl.wanted_is rfl rfl ((hF 133 (by decide +kernel)).1 (by decide))) hC rfl (rn_move rfl ((hF 16 (by decide +kernel)).2 (by decide)))
        · exact Tl.sm_v 146 _ rfl (Tl.wanted_is rfl rfl ((hF 133 (by decide +kernel)).1 (by decide))) hC rfl (rn_ixo rfl ((hF 144 (by decide +kernel)).1 (by decide)) ((hF 145 (by decide +kernel)).1 (by decide)) hlt)
        · exact Tl.sm_v 147 _ rfl (Tl.wanted_is rfl rfl ((hF 133 (by decide +kernel)).1 (by decide))) hC rfl (rn_load rfl ((hF 146 (by decide +kernel)).1 (by decide)) (by rw [hC]; exact c0))
        · exact Tl.sm_v 148 _ rfl (Tl.wanted_is rfl rfl ((hF 133 (by decide +kernel)).1 (by decide))) hC rfl (rn_neqS rfl ((hF 143 (by decide +kernel)).1 (by decide)) ((hF 147 (by decide +kernel)).1 (by decide)))
        · exact Tl.sm_v 149 _ rfl (Tl.wanted_none rfl) hC rfl (rn_pickF rfl ((hF 133 (by decide +kernel)).1 (by decide)) ((hF 148 (by decide +kernel)).1 (by decide)))
        intro v' w9 hw9 hv
        subst hw9
        have v149 : v' 149 = .bool false := hv 149 (by decide)
        have hd : ∀ l : List Oper, l.length = 35 → l.drop 35 = [] := fun l h => List.drop_eq_nil_of_le (by omega)
        rw [hd _ (by simp)]
        clear hd
        simp only [Tl.fill, wpList]
        simp only [Act.put, List.setIfInBounds_toArray, List.set_cons_succ, List.set_cons_zero, v149]
        clear hv v149
        have c0' : wr.drew.cell? ⟨g1, o1 + k, none⟩ = some (.string s) := c0
        clear c0 c1
        go_wp2_with fail
        go_roundw
        case rel => exact ⟨k + 1, e, by omega, by rfl, rfl, HE, below_draws HB.out _⟩
        case measure => first | (simp [intOf]; done) | (simp [intOf]; omega)
      · obtain rfl : k = m := by omega
        have hfD : f = D.size := by rw [HF.out, hsz, HN.out, List.take_length]
        subst hfD
        obtain ⟨g1, o1, rfl, hg1, _⟩ := tx_cell HL.out (B8.out.trans (hB.mono B8.out.size)) (show 0 < l.length by have := HN.out; omega)
        have q1 : ¬ ((k : Int) < (k : Int)) := by omega
        obtain ⟨p, hpk, hp⟩ := kth n k hone (by omega)
        have HB := hid (B8.out.trans (hB.mono B8.out.size))
        have HDS := hid hsz
        clear hB hsz
        go_wp2_with fail
        obtain ⟨o2, ho2⟩ : ∃ o2, (if cap = p + 1 then o1 else o1 + (p + 1)) = o2 := ⟨_, rfl⟩
        have HO := hid ho2
        clear ho2 hp
        refine Tl.wp_mix_lit (by kernel_rfl) 9 [164, 165, 166, 167, 168, 169, 170, 171, 172] 204 rfl (by kernel_rfl) (fun W => Below w.heap.size w W) (lsF w.heap.size g1 o1 k cap p o2 l) HB.out.drew
          ⟨fun a' W' hC hF => ?_, fun a' W' hC hF => ?_, fun a' W' hC hF => ?_, fun a' W' hC hF => ?_, fun a' W' hC hF => ?_, fun a' W' hC hF => ?_, fun a' W' hC hF => ?_, fun a' W' hC hF => ?_, fun a' W' hC hF => ?_, trivial⟩ ?_
        · exact Tl.sm_w _ (Tl.wanted_none rfl) (rn_bs0 rfl) (hC.alloc hC.size _) (fun d v _ h => lsF_mono ((Below.refl _ _).alloc (Nat.le_refl _) _) d v h) (fun d hd => by cases hd; exact ⟨_, rfl, hC.size, Has.new _ _ _ 9 rfl⟩)
        · exact Tl.sm_v 165 _ rfl (Tl.wanted_none rfl) hC rfl (rn_move rfl ((hF 0 (by decide +kernel)).2 (by decide)))
        · exact Tl.sm_v 166 _ rfl (Tl.wanted_none rfl) hC rfl (rn_move rfl ((hF 17 (by decide +kernel)).2 (by decide)))
        · exact Tl.sm_v 167 _ rfl (Tl.wanted_none rfl) hC rfl (rn_slT rfl ((hF 165 (by decide +kernel)).1 (by decide)) ((hF 166 (by decide +kernel)).1 (by decide)) (by omega))
        · obtain ⟨b0, e0, hb0, hh0⟩ := (hF 164 (by decide +kernel)).1 (by decide)
          obtain ⟨v', w9, hr, hrow, hbl⟩ := app_empty (ty := 24) (c := cap) hh0 hb0 (HL.out.below hC) (show p ≤ l.length by have := HN.out; omega) (by omega) hC.size
          exact Tl.sm_w v' (Tl.wanted_none rfl) (rn_app rfl e0 ((hF 167 (by decide +kernel)).1 (by decide)) rfl hr) (hC.trans (hbl.mono hC.size)) (fun d v _ h => lsF_mono hbl d v h) (fun d hd => by cases hd; exact hrow)
        · exact Tl.sm_v 169 _ rfl (Tl.wanted_none rfl) hC rfl (rn_move rfl ((hF 0 (by decide +kernel)).2 (by decide)))
        · exact Tl.sm_v 170 _ rfl (Tl.wanted_none rfl) hC rfl (rn_move rfl ((hF 17 (by decide +kernel)).2 (by decide)))
        · exact Tl.sm_v 171 _ rfl (Tl.wanted_none rfl) hC rfl (rn_add3 rfl ((hF 170 (by decide +kernel)).1 (by decide)) rfl (show IntKind.i64.wrap ((p : Int) + 1) = ((p + 1 : Nat) : Int) by rw [IntKind.wrap_i64]; omega))
        · exact Tl.sm_v 172 _ rfl (Tl.wanted_none rfl) hC rfl (rn_slF rfl ((hF 169 (by decide +kernel)).1 (by decide)) ((hF 171 (by decide +kernel)).1 (by decide)) (by omega) hlc HO.out)
        intro v' w9 hC hv
        have v164 := hv 164 (by decide)
        have v168 : w9.ownsRow w.heap.size 9 1 (v' 168) p ((l.take p).map Value.string) := hv 168 (by decide)
        have v172 : v' 172 = .slice (some ⟨g1, o2, none⟩) (k - (p + 1)) (cap - (p + 1)) := hv 172 (by decide)
        simp only [Tl.fill, List.drop_succ_cons, List.drop_zero]
        simp only [Act.put, List.setIfInBounds_toArray, List.set_cons_succ, List.set_cons_zero, v172]
        clear hv v164 v172
        generalize v' 168 = v8 at *
        generalize v' 164 = v64 at *
        have hkl := HN.out
        have HNW : Hid (∀ j u, (((l.drop (p + 1)).take (k - (p + 1))).map Value.string)[j]? = some u → w9.cell? ((⟨g1, o2, none⟩ : Addr).add j) = some u) := hid (fun j u hj => by
          by_cases hcp : cap = p + 1
          · rw [show k - (p + 1) = 0 by omega] at hj
            simp at hj
          · have h3 := HO.out
            rw [if_neg hcp] at h3
            have h4 := tx_news (p := p + 1) (q := k - (p + 1)) (HL.out.below hC) (by omega) j u hj
            rw [h3] at h4
            exact h4)
        have hnl : (((l.drop (p + 1)).take (k - (p + 1))).map Value.string).length = (k - (p + 1)) * 1 := by rw [List.length_map, List.length_take, List.length_drop]; omega
        have hml : p + (k - (p + 1)) ≤ maxLen := by unfold maxLen; omega
        have hLS : (l.take p).map Value.string ++ ((l.drop (p + 1)).take (k - (p + 1))).map Value.string = (l.take p ++ l.drop (p + 1)).map Value.string := by
          have et : (l.drop (p + 1)).take (k - (p + 1)) = l.drop (p + 1) := List.take_of_length_le (by rw [List.length_drop]; omega)
          rw [et, List.map_append]
        have HLS := hid hLS
        have hson : ∀ u ∈ (((l.drop (p + 1)).take (k - (p + 1))).map Value.string), u.oneCell' = true := one_str _
        have hwo : w.heap.size ≤ w9.heap.size := hC.size
        have HML := hid (mayB_less HMY.out p (by omega))
        have HTL := hid (tot_less l p)
        have HLL : Hid ((l.take p ++ l.drop (p + 1)).length ≤ 1000000) := hid (by rw [List.length_append, List.length_take, List.length_drop]; omega)
        generalize ((l.drop (p + 1)).take (k - (p + 1))).map Value.string = nws at *
        generalize l.take p ++ l.drop (p + 1) = LS at *
        clear hLS hkl
        go_wp2_with (at_builtin; refine wpList_append_own _ rfl _ _ 24 rfl w.heap.size 9 i0 (.string ⟨#[]⟩) 1 16 Try.underlying24 hi hz0 hz1 hz2 rfl (by decide) v8 p _ rfl v168 ⟨g1, o2, none⟩ (k - (p + 1)) (cap - (p + 1)) nws rfl hnl HNW.out hson hml (by omega) hwo ?_; intro v10 w10 hown10 hgrow10 _)
        have B10 := hid (hC.grown hgrow10 hwo (fun j hj => (v168.lt j hj).1))
        rw [HLS.out] at hown10
        obtain ⟨A9, c9, hv10, _, _, tx9⟩ := row_tx hown10
        subst hv10
        have T10 := hid tx9
        have K10 := hid (HL.out.below B10.out)
        have CL := fun W (h : Tx W A9 LS) => may_any LS A9 c9 W h HLL.out (by have := HTL.out; omega)
        rw [HML.out] at CL
        have CB := fun W A' c' (h : Tx W A' l.reverse) => may_any l.reverse A' c' W h (by rw [List.length_reverse]; have := HN.out; omega) (by rw [tot_rev]; omega)
        rw [mayB_back HMY.out, List.length_reverse, ← HN.out] at CB
        generalize LS.length = q at *
        clear tx9 hown10 hgrow10 v168 hC HNW hnl hson HLS HML HTL HLL hml hwo
        go_loopw [19, 20] (fun v19 v20 wq => ∃ j : Nat, j ≤ k ∧ v20 = .int .i64 ((j : Int) - 1) ∧ wq.ownsRow w10.heap.size 9 1 v19 (k - j) ((l.drop j).reverse.map Value.string) ∧ Below w10.heap.size w10 wq) (fun _ v20 _ => (intOf v20 + 1).toNat)
        case atStart =>
          refine ⟨k, Nat.le_refl _, rfl, ?_, Below.refl _ _⟩
          rw [Nat.sub_self, List.drop_of_length_le (by have := HN.out; omega)]
          exact World.ownsRow_nil _ _ _ _
        case round =>
          obtain ⟨j, hj, rfl, hrow, hBq⟩ := hrel
          by_cases hj0 : 0 < j
          · obtain ⟨i, rfl⟩ : ∃ i, j = i + 1 := ⟨j - 1, by omega⟩
            have hil : i < l.length := by have := HN.out; omega
            obtain ⟨g3, o3, e3, hg3, c0⟩ := tx_cell K10.out hBq hil
            cases e3
            have HR2 : Hid ((l.drop i).reverse = (l.drop (i + 1)).reverse ++ [l.getD i ⟨#[]⟩]) := hid (by
              rw [List.drop_eq_getElem_cons hil, List.reverse_cons, List.getD_eq_getElem?_getD, List.getElem?_eq_getElem hil]; rfl)
            generalize l.getD i ⟨#[]⟩ = s at *
            have ei : ((i + 1 : Nat) : Int) - 1 = (i : Int) := by omega
            rw [ei]
            have ii0 : (0 : Int) ≤ (i : Int) := by omega
            have i1 : (i : Int) < (k : Int) := by omega
            have hml2 : k - (i + 1) + 1 ≤ maxLen := by unfold maxLen; omega
            clear ei
            generalize u19 = v19 at *
            go_wp2_with (at_builtin; refine wpList_append_own _ rfl _ _ 24 rfl w10.heap.size 9 i0 (.string ⟨#[]⟩) 1 16 Try.underlying24 hi hz0 hz1 hz2 rfl (by decide) v19 (k - (i + 1)) _ rfl (hrow.alloc _) ⟨wr.heap.size, 0, none⟩ 1 1 [.string s] rfl rfl (cell_one_new _ _ _) (by simp [Value.oneCell']) hml2 (by omega) (by have := hBq.size; simp; omega) ?_; intro v11 w11 hown11 hgrow11 _)
            have hB11 : Below w10.heap.size w10 w11 := (hBq.alloc hBq.size _).grown hgrow11 (by have := hBq.size; simp; omega) (fun j hj => (hrow.lt j hj).1)
            have ek : k - i = k - (i + 1) + 1 := by omega
            go_roundw
            case rel => exact ⟨i, by omega, rfl, by rw [ek, HR2.out, List.map_append]; exact hown11, hB11⟩
            case measure => first | (simp [intOf]; done) | (simp [intOf]; omega)
          · obtain rfl : j = 0 := by omega
            rw [Nat.sub_zero, List.drop_zero] at hrow
            obtain ⟨A10, c10, hv19, _, hk10, tx10⟩ := row_tx hrow
            rw [List.length_reverse, ← HN.out] at hv19
            have T11 := hid tx10
            have T12 := hid (T10.out.below hBq)
            have B11 := hid (B10.out.trans (hBq.mono B10.out.size))
            clear hrow hBq tx10 hk10 T10 K10
            rw [hv19, show ((0 : Nat) : Int) - 1 = -1 by omega]
            clear hv19
            have xD : ((D.size : Int) == (D.size : Int)) = true := by simp
            go_wp2_with fail
            by_cases hq : 0 < q
            · have dq : decide ((0 : Int) < (q : Int)) = true := by simp; omega
              rw [decide_eq_true hq] at CL
              refine (CL _ T12.out).mono ?_
              rintro e w12 ⟨rfl, b12⟩
              have B12 := hid (B11.out.trans (b12.mono B11.out.size))
              have T13 := hid (T11.out.below b12)
              clear b12 CL T11 T12 B11
              go_wp2_with fail
              refine (CB _ _ _ T13.out).mono ?_
              rintro e w13 ⟨rfl, b13⟩
              have B13 := hid (B12.out.trans (b13.mono B12.out.size))
              clear b13 CB T13 B12
              go_wp2_with fail
              go_ret
              exact ⟨rfl, B13.out⟩
            · have dq : decide ((0 : Int) < (q : Int)) = false := by simp; omega
              rw [decide_eq_false hq] at CL
              refine (CL _ T12.out).mono ?_
              rintro e w12 ⟨rfl, b12⟩
              have B12 := hid (B11.out.trans (b12.mono B11.out.size))
              have T13 := hid (T11.out.below b12)
              clear b12 CL T11 T12 B11
              go_wp2_with fail
              refine (CB _ _ _ T13.out).mono ?_
              rintro e w13 ⟨rfl, b13⟩
              have B13 := hid (B12.out.trans (b13.mono B12.out.size))
              clear b13 CB T13 B12
              go_wp2_with fail
              go_ret
              exact ⟨rfl, B13.out⟩
/-- any chunks, any bytes, any number -/
theorem back_walk (l : List ByteArray) (A : Option Addr) (cap : Nat) (b : ByteArray) (n : Int) (w : World) (h : Tx w A l) (hlc : l.length ≤ cap) (hl : l.length ≤ 9223372036854775807) (hz : ∀ s ∈ l, s.size ≤ 9223372036850000000) (hn : -9223372036854775808 ≤ n ∧ n ≤ 9223372036854775807) :
    Calls Try.prog 6 #[.slice A l.length cap, .string b, .int .i64 n] w fun e w' => e = .returned (.bool true) ∧ Below w.heap.size w w' := by
  cases hg : lgB l with
  | true => exact back_far l A cap b n w h hl hz (.inl hg)
  | false =>
    by_cases hb : b.size ≤ 20000
    · by_cases hM : May (l.map bs)
      · exact back_may l A cap b n w h hlc hl hz hg hb hn hM
      · exact back_not l A cap b n w h hl hz hg hb hM
    · exact back_far l A cap b n w h hl hz (.inr (by omega))
end Go.Proofs.Ytfebelcdffknkaa
