/- The contracts of what faults do. -/
import Derived.Test.YtgdiaflikfdnaaaBytes
namespace Go.Proofs.Ytgdiaflikfdnaaa
open Go.RowKit Go.Maps
/-- the object that a fault is of -/
def stk (M : List Ob) (n : Nat) : Option Ob := M[n % M.length]?
def stkN (M : List Ob) (n : Nat) : ByteArray := ((stk M n).map (·.1)).getD ⟨#[]⟩
theorem stk_none {M : List Ob} {n : Nat} (h : M.length = 0) : stk M n = none := by
  rw [List.eq_nil_of_length_eq_zero h]; rfl
theorem stk_some {M : List Ob} {n : Nat} (h : M.length ≠ 0) : ∃ p, stk M n = some p ∧ M[n % M.length]? = some p :=
  ⟨_, List.getElem?_eq_getElem (Nat.mod_lt _ (by omega)), List.getElem?_eq_getElem (Nat.mod_lt _ (by omega))⟩
set_option maxHeartbeats 1000000 in
set_option maxRecDepth 20000 in
theorem struck_any {w : World} {S : Nat → Prop} {b : Nat} {s : St} (h : IsSt w S b s) (hs : s.seen.length ≤ 1000000) (k t : Int) (n : Nat) (a c : Int) (hn : n < 9223372036854775808) : Calls Try.prog 74 #[ptr b, fv k t n a c] w fun e w' => e = .returned (.tuple #[.string (stkN s.seen n), .bool (stk s.seen n).isSome]) ∧ Below w.heap.size w w' := by
  have HB := hid (boxed w (.cells #[.int .u8 k, .int .i64 t, .int .i64 (n : Int), .int .i64 a, .int .i64 c] 37))
  have hbox : Has (w.alloc (.cells #[.int .u8 k, .int .i64 t, .int .i64 (n : Int), .int .i64 a, .int .i64 c] 37)) w.heap.size #[.int .u8 k, .int .i64 t, .int .i64 (n : Int), .int .i64 a, .int .i64 c] 37 := Has.new _ _ _ _ rfl
  have hN := names_any (h.below HB.out) hs
  have HX := hid hbox
  clear h hbox
  unfold ptr fv at *
  unfold stkN
  generalize s.seen = M at *
  go_enter Try.func74, Try.ntmps74
  go_wp2_with fail
  refine hN.mono ?_
  rintro e w1 ⟨nv, rfl, hr, hb⟩
  have hx1 := HX.out.below hb HX.out.lt
  have k2 := hx1.cell 2
  have HB1 := hid (HB.out.trans (hb.mono (by simp)))
  have form := row_form hr
  clear hN hr hb hx1 HX HB
  by_cases h0 : M.length = 0
  · have E := hid (stk_none (n := n) h0)
    rcases form with ⟨rfl, _, _⟩ | ⟨g, cap, rfl, _⟩
    · go_wp2_with fail
      go_ret2
      rw [E.out]
      exact ⟨rfl, HB1.out⟩
    · rw [h0]
      go_wp2_with fail
      go_ret2
      rw [E.out]
      exact ⟨rfl, HB1.out⟩
  · obtain ⟨p, hp1, hp2⟩ := stk_some (n := n) h0
    rcases form with ⟨_, e0, _⟩ | ⟨g, cap, rfl, hg, _, hcap, _, hc⟩
    · exact absurd e0 h0
    · have cn : w1.cell? ⟨g, n % M.length, none⟩ = some (.string p.1) := hc _ _ (nameCells_get M _ p hp2)
      have hlt : n % M.length < M.length := Nat.mod_lt _ (by omega)
      have E := hid hp1
      have q0 : ((M.length : Int) == 0) = false := beq_eq_false_iff_ne.2 (by omega)
      have q1 : (n : Int).tmod (M.length : Int) = ((n % M.length : Nat) : Int) := by
        rw [Int.tmod_eq_emod_of_nonneg (by omega)]; rfl
      clear hp1 hp2 hc
      generalize n % M.length = r at *
      generalize hml : M.length = L at *
      go_wp2_with fail
      go_ret2
      rw [E.out]
      exact ⟨rfl, HB1.out⟩
theorem IsSt.bound {w : World} {S : Nat → Prop} {b : Nat} {s : St} (h : IsSt w S b s) : ∀ i, S i → i < w.heap.size := by
  obtain ⟨_, _, _, _, _, _, _, _, h7, _⟩ := h; exact h7
theorem After.box {w w1 : World} {S : Nat → Prop} {b : Nat} {s : St} {cs : Array Value} {t : TypeId} (hA : After (w.alloc (.cells cs t)) w1 S b s) (h7 : ∀ i, S i → i < w.heap.size) : Has w1 w.heap.size cs t := by
  obtain ⟨_, _, _, hO⟩ := hA
  exact hO.has (Has.new _ _ _ _ rfl) fun h => by have := h7 _ h; omega
def loseS (s : St) (n : Nat) : St := { s with writes := [], seen := match stk s.seen n with | none => s.seen | some p => drop p.1 s.seen }
/-- a byte of it is another one -/
def bent (d : ByteArray) (a y : Nat) : ByteArray := ofBs ((bs d).set (a % d.size) y)
def bendS (s : St) (n a y : Nat) : St := match stk s.seen n with
  | none => { s with writes := [] }
  | some p => if p.2.size = 0 then { s with writes := [] } else { s with writes := [], seen := put (p.1, bent p.2 a y) s.seen, live := true }
theorem stk_mem {M : List Ob} {n : Nat} {p : Ob} (h : stk M n = some p) : p ∈ M := List.mem_of_getElem? h
theorem five_cells {W : World} {b : Nat} {u v x y z : Value} {t : TypeId} (h : Has W b #[u, v, x, y, z] t) : W.cell? ⟨b, 0, none⟩ = some u ∧ W.cell? ⟨b, 1, none⟩ = some v ∧ W.cell? ⟨b, 2, none⟩ = some x ∧ W.cell? ⟨b, 3, none⟩ = some y ∧ W.cell? ⟨b, 4, none⟩ = some z :=
  ⟨h.cell 0, h.cell 1, h.cell 2, h.cell 3, h.cell 4⟩
set_option maxHeartbeats 1000000 in
set_option maxRecDepth 20000 in
theorem lose_any {w : World} {S : Nat → Prop} {b : Nat} {s : St} (h : IsSt w S b s) (hs : s.seen.length ≤ 1000000) (hnm : ∀ p ∈ s.seen, p.1.size ≤ 80) (k t : Int) (n : Nat) (a c : Int) (hn : n < 9223372036854775808) : Calls Try.prog 62 #[ptr b, fv k t n a c] w fun e w' => e = .returned (.tuple #[]) ∧ After w w' S b (loseS s n) := by
  have HB := hid (boxed w (.cells #[.int .u8 k, .int .i64 t, .int .i64 (n : Int), .int .i64 a, .int .i64 c] 37))
  have hS := settle_any (h.below HB.out)
  have h7 := hid h.bound
  clear h
  unfold ptr at hS ⊢
  unfold fv
  go_enter Try.func62, Try.ntmps62
  go_wp2_with fail
  refine hS.mono ?_
  rintro e w1 ⟨rfl, hA1⟩
  have hx1 := hA1.box h7.out
  obtain ⟨x0, x1, x2, x3, x4⟩ := five_cells hx1
  have HA0 := hid (hA1.front HB.out)
  clear hS hA1 hx1 HB
  obtain ⟨S1, g1, g2, g3⟩ := HA0.out
  have hT := struck_any g1 hs k t n a c hn
  unfold ptr fv stkN at hT
  cases hk : stk s.seen n with
  | none =>
    simp only [hk, Option.isSome_none, Option.map_none, Option.getD_none] at hT
    have HE := hid (show loseS s n = { s with writes := [] } from by unfold loseS; rw [hk])
    clear hk
    go_wp2_with fail
    refine hT.mono ?_
    rintro e w2 ⟨rfl, hb⟩
    have HA2 := hid (HA0.out.next hb)
    clear hT hb g1 g2 g3 x0 x1 x2 x3 x4 HA0
    go_wp2_with fail
    go_end0
    rw [HE.out]
    exact ⟨rfl, HA2.out⟩
  | some q =>
    have hqm := stk_mem hk
    have HE := hid (show loseS s n = { s with writes := [], seen := drop q.1 s.seen } from by unfold loseS; rw [hk])
    simp only [hk, Option.isSome_some, Option.map_some, Option.getD_some] at hT
    have hq : q.1.size ≤ maxLen := by have := hnm q hqm; unfold maxLen; omega
    clear hk
    go_wp2_with fail
    refine hT.mono ?_
    rintro e w2 ⟨rfl, hb⟩
    have g4 := hid (g1.below hb)
    have G := hid (show Only S w w2 from g3.next hb)
    have G2 := hid g2
    clear hT hb g1 g2 g3 x0 x1 x2 x3 x4 HA0
    obtain ⟨mo, wv, h1, h2, h3, h4, h5, h6, h7', h8⟩ := g4.out
    obtain ⟨c0, c1, c2, c3, c4, c5, c6⟩ := scells_cell h1
    obtain ⟨w3, hrun, r1, r2⟩ := h2.del hq 0
    have hA := hid (After.trans (S := S) (S1 := S1) G2.out G.out (After.grown h1 h3 h4 h5 h6 h7' h8 h2 _ r1 r2))
    clear h1 h2 h3 h4 h5 h6 h7' r1 r2 g4 G G2 h7 hnm hs
    go_wp2_with fail
    go_end0
    rw [HE.out]
    exact ⟨rfl, hA.out⟩
section
variable {ev : Operand → Value} {o : Oper} {w : World} {x y : Operand}
theorem rn_len68 {g n c : Nat} (ho : o.op = .call { callee := .builtin .len, args := #[x], argTypes := #[113] }) (hx : ev x = .slice (some ⟨g, 0, none⟩) n c) : (execOp ev o).run Try.prog w = .ok (.value (.int .i64 (n : Int))) w := by
  simp [execOp, ho, hx, go_sem]
theorem rn_rem3 {u v : Nat} (ho : o.op = .binOp .rem 3 x y 3) (hx : ev x = .int .i64 (u : Int)) (hy : ev y = .int .i64 (v : Int)) (hv : v ≠ 0 ∧ u < 9223372036854775808) : (execOp ev o).run Try.prog w = .ok (.value (.int .i64 ((u % v : Nat) : Int))) w := by
  have q1 : (u : Int).tmod (v : Int) = ((u % v : Nat) : Int) := by rw [Int.tmod_eq_emod_of_nonneg (by omega)]; rfl
  simp [execOp, ho, hx, hy, go_sem, q1, hv.1]
theorem rn_c35 {z : Int} (ho : o.op = .convert 3 5 x) (hx : ev x = .int .i64 z) (h : 0 ≤ z ∧ z < 256) : (execOp ev o).run Try.prog w = .ok (.value (.int .u8 z)) w := by
  have e : IntKind.u8.wrap z = z := by simp [IntKind.wrap, IntKind.bits, IntKind.signed]; omega
  simp [execOp, ho, hx, go_sem, e]
end
def bendF (B g n cap : Nat) (a y : Nat) (i : Nat) (v : Value) (_ : World) : Prop := match i with
  | 28 => v = .slice (some ⟨g, 0, none⟩) n cap | 31 => v = .slice (some ⟨g, 0, none⟩) n cap
  | 29 => v = .pointer (some ⟨B, 3, none⟩)
  | 30 => v = .int .i64 (a : Int)
  | 32 => v = .int .i64 (n : Int)
  | 33 => v = .int .i64 ((a % n : Nat) : Int)
  | 34 => v = .pointer (some ⟨B, 4, none⟩)
  | 35 => v = .int .i64 (y : Int)
  | 36 => v = .int .u8 (y : Int)
  | _ => True
set_option maxHeartbeats 4000000 in
set_option maxRecDepth 20000 in
theorem bend_any {w : World} {S : Nat → Prop} {b : Nat} {s : St} (h : IsSt w S b s) (hs : s.seen.length ≤ 1000000) (hnm : ∀ p ∈ s.seen, p.1.size ≤ 80) (hda : ∀ p ∈ s.seen, p.2.size ≤ 65536) (k t : Int) (n a y : Nat) (hn : n < 9223372036854775808) (ha : a < 9223372036854775808) (hy : y < 256) : Calls Try.prog 63 #[ptr b, fv k t n a y] w fun e w' => e = .returned (.tuple #[]) ∧ After w w' S b (bendS s n a y) := by
  have HB := hid (boxed w (.cells #[.int .u8 k, .int .i64 t, .int .i64 (n : Int), .int .i64 (a : Int), .int .i64 (y : Int)] 37))
  have hS := settle_any (h.below HB.out)
  have h7 := hid h.bound
  clear h
  unfold ptr at hS ⊢
  unfold fv
  go_enter Try.func63, Try.ntmps63
  go_wp2_with fail
  refine hS.mono ?_
  rintro e w1 ⟨rfl, hA1⟩
  have hx1 := hA1.box h7.out
  have HX := hid hx1
  obtain ⟨x0, x1, x2, x3, x4⟩ := five_cells hx1
  have HA0 := hid (hA1.front HB.out)
  clear hS hA1 hx1 HB
  obtain ⟨S1, g1, g2, g3⟩ := HA0.out
  have hT := struck_any g1 hs k t n a y hn
  unfold ptr fv stkN at hT
  cases hk : stk s.seen n with
  | none =>
    simp only [hk, Option.isSome_none, Option.map_none, Option.getD_none] at hT
    have HE := hid (show bendS s n a y = { s with writes := [] } from by unfold bendS; rw [hk])
    clear hk
    go_wp2_with fail
    refine hT.mono ?_
    rintro e w2 ⟨rfl, hb⟩
    have HA2 := hid (HA0.out.next hb)
    clear hT hb g1 g2 g3 x0 x1 x2 x3 x4 HA0
    go_wp2_with fail
    refine bodyPost_ret (results_none rfl _ _ _) rfl ?_
    rw [HE.out]
    exact ⟨rfl, HA2.out⟩
  | some q =>
    have hqm := stk_mem hk
    have HE0 := hid (show q.2.size = 0 → bendS s n a y = { s with writes := [] } from fun h0 => by unfold bendS; rw [hk]; simp only [h0, if_true])
    have HE1 := hid (show q.2.size ≠ 0 → bendS s n a y = { s with writes := [], seen := put (q.1, bent q.2 a y) s.seen, live := true } from fun h0 => by unfold bendS; rw [hk]; simp only [h0, if_false])
    simp only [hk, Option.isSome_some, Option.map_some, Option.getD_some] at hT
    have hq : q.1.size ≤ maxLen := by have := hnm q hqm; unfold maxLen; omega
    clear hk
    go_wp2_with fail
    refine hT.mono ?_
    rintro e w2 ⟨rfl, hb⟩
    have g4 := hid (g1.below hb)
    have G := hid (show Only S w w2 from g3.next hb)
    have G2 := hid g2
    have HX2 := hid (HX.out.below hb HX.out.lt)
    have HA2 := hid (HA0.out.next hb)
    clear hT hb g1 g2 g3 x0 x1 x2 x3 x4 HA0 HX
    obtain ⟨mo, wv, ⟨c0, c1, c2, c3, c4, c5, c6⟩, hM, _, _⟩ := g4.out.cells
    have hlk := hM.look hq false
    rw [(look_some hM.rising).2 (show (q.1, q.2) ∈ _ from hqm), cv_some] at hlk
    simp only [Bool.false_eq_true, if_false] at hlk
    have hfl := fun W => fld67 W true q.2
    obtain ⟨W2, cap, hcv, hbr, hbw, hcap⟩ := bytes_told w2 q.2
    have HBR := hid hbr
    have HBW := hid hbw
    have x3 : W2.cell? ⟨w.heap.size, 3, none⟩ = some (.int .i64 (a : Int)) := (HX2.out.below hbw HX2.out.lt).cell 3
    have x4 : W2.cell? ⟨w.heap.size, 4, none⟩ = some (.int .i64 (y : Int)) := (HX2.out.below hbw HX2.out.lt).cell 4
    have hdq := hda q hqm
    clear hM hbr hbw hqm hda hnm
    by_cases hd : q.2.size = 0
    · have q0 : ((q.2.size : Int) == 0) = true := beq_iff_eq.2 (by omega)
      have HD := hid hd
      clear hd
      go_wp2_with fail
      refine bodyPost_ret (results_none rfl _ _ _) rfl ?_
      rw [HE0.out HD.out]
      exact ⟨rfl, HA2.out.next HBW.out⟩
    · have q0 : ((q.2.size : Int) == 0) = false := beq_eq_false_iff_ne.2 (by omega)
      have HD := hid hd
      clear HA2
      go_wp2_with fail
      refine Tl.wp_mix_lit (by kernel_rfl) 9 [28, 29, 30, 31, 32, 33, 34, 35, 36] 44 rfl (by kernel_rfl) (AtW W2.drew) (bendF w.heap.size w2.heap.size q.2.size cap a y) rfl
        ⟨fun a' W' hC hF => ?_, fun a' W' hC hF => ?_, fun a' W' hC hF => ?_, fun a' W' hC hF => ?_, fun a' W' hC hF => ?_, fun a' W' hC hF => ?_, fun a' W' hC hF => ?_, fun a' W' hC hF => ?_, fun a' W' hC hF => ?_, trivial⟩ ?_
      · exact Tl.sm_v 28 _ rfl (Tl.wanted_none rfl) hC rfl (rn_move rfl ((hF 6 (by decide +kernel)).2 (by decide)))
      · exact Tl.sm_v 29 _ rfl (Tl.wanted_none rfl) hC rfl (rn_f32_3 rfl ((hF 3 (by decide +kernel)).2 (by decide)))
      · exact Tl.sm_v 30 _ rfl (Tl.wanted_none rfl) hC rfl (rn_load3 rfl ((hF 29 (by decide +kernel)).1 (by decide)) (by rw [show W' = _ from hC]; exact x3))
      · exact Tl.sm_v 31 _ rfl (Tl.wanted_none rfl) hC rfl (rn_move rfl ((hF 6 (by decide +kernel)).2 (by decide)))
      · exact Tl.sm_v 32 _ rfl (Tl.wanted_none rfl) hC rfl (rn_len68 rfl ((hF 31 (by decide +kernel)).1 (by decide)) )
      · exact Tl.sm_v 33 _ rfl (Tl.wanted_none rfl) hC rfl (rn_rem3 rfl ((hF 30 (by decide +kernel)).1 (by decide)) ((hF 32 (by decide +kernel)).1 (by decide)) ⟨hd, ha⟩)
      · exact Tl.sm_v 34 _ rfl (Tl.wanted_none rfl) hC rfl (rn_f32_4 rfl ((hF 3 (by decide +kernel)).2 (by decide)))
      · exact Tl.sm_v 35 _ rfl (Tl.wanted_none rfl) hC rfl (rn_load3 rfl ((hF 34 (by decide +kernel)).1 (by decide)) (by rw [show W' = _ from hC]; exact x4))
      · exact Tl.sm_v 36 _ rfl (Tl.wanted_none rfl) hC rfl (rn_c35 rfl ((hF 35 (by decide +kernel)).1 (by decide)) ⟨by omega, by omega⟩)
      intro v wB hw hv
      obtain rfl : wB = _ := hw
      have v28 : v 28 = .slice (some ⟨w2.heap.size, 0, none⟩) q.2.size cap := hv 28 (by decide)
      have v33 : v 33 = .int .i64 ((a % q.2.size : Nat) : Int) := hv 33 (by decide)
      have v36 : v 36 = .int .u8 (y : Int) := hv 36 (by decide)
      have hr : a % q.2.size < q.2.size := Nat.mod_lt _ (by omega)
      have hl0 : (bs q.2).length = q.2.size := bs_length _
      have f1 : W2.frozen? ⟨w2.heap.size, a % q.2.size, none⟩ = false := HBR.out.frozen _ (by omega)
      have f2 := HBR.out.cell (a % q.2.size) (by omega)
      have hb3 := HBR.out.set (a % q.2.size) y (y : Int) rfl (by omega)
      have hl3 : ((bs q.2).set (a % q.2.size) y).length = q.2.size := by simp [hl0]
      have hcv2 := BRow.conv (W := (W2.setCell ⟨w2.heap.size, a % q.2.size, none⟩ (.int .u8 (y : Int))).drew) hb3 q.2.size cap (by omega)
      rw [List.take_of_length_le (by omega)] at hcv2
      have HE := HE1.out hd
      unfold bent at HE
      have HEE := hid HE
      have I3 : IsSt (W2.setCell ⟨w2.heap.size, a % q.2.size, none⟩ (.int .u8 (y : Int))) S1 b { s with writes := [] } :=
        (g4.out.below HBW.out).only ((Only.refl (fun i => i = w2.heap.size) W2).set (p := ⟨w2.heap.size, a % q.2.size, none⟩) (.inl rfl) _) fun i hi e => by
          have := g4.out.bound i hi; omega
      have O3 : Hid (Only S w (W2.setCell ⟨w2.heap.size, a % q.2.size, none⟩ (.int .u8 (y : Int)))) := hid ((G.out.next HBW.out).set (.inr G.out.size) _)
      have hset := set_any I3.drew q.1 (some (ofBs ((bs q.2).set (a % q.2.size) y))) hq (by show s.seen.length < _; unfold maxLen; omega)
      rw [cv_some] at hset
      unfold ptr at hset
      clear hv HBR HBW hb3 I3 G g4 hl0 hl3 HE
      simp only [Tl.fill, List.drop_succ_cons, List.drop_zero]
      simp only [Act.put, List.setIfInBounds_toArray, List.set_cons_succ, List.set_cons_zero, v28, v33, v36]
      generalize a % q.2.size = r at *
      go_wp2_with fail
      refine hset.mono ?_
      rintro e w4 ⟨rfl, hA4⟩
      have HFin := hid (After.trans (S := S) G2.out O3.out.drew hA4)
      clear hset hA4 O3 G2
      go_wp2_with fail
      go_end0
      rw [HEE.out]
      have hF' := HFin.out
      simp only [Option.isSome_some, Bool.or_true] at hF'
      exact ⟨rfl, hF'⟩
end Go.Proofs.Ytgdiaflikfdnaaa
