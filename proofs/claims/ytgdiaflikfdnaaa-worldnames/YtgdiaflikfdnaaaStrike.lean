/- The contract of Strike. -/
import Derived.Test.YtgdiaflikfdnaaaFault
import Derived.Laws.EntriesVeiled
namespace Go.Proofs.Ytgdiaflikfdnaaa
open Go.RowKit Go.Maps
def fn (f : Nat) : Value := .func (.func f) #[] #[]
def tab : List Value := [.nilFunc, fn 61, fn 62, fn 63, fn 64, fn 65, fn 66, fn 67]
theorem info70 : (Try.prog.info? 90).map (·.size) = some 8 := by kernel_rfl
set_option maxRecDepth 20000 in
theorem deeds_any (w : World) : Calls Try.prog 48 #[] w fun e w' => e = .returned (.agg tab.toArray) ∧ Below w.heap.size w w' := by
  unfold tab fn
  go_enter Try.func48, Try.ntmps48
  go_wp2_with fail
  refine ret_one (b := w.heap.size) (cs := tab) rfl rfl rfl (Has.new w _ tab.toArray 90 rfl).ranged Try.underlying90 rfl info70 ⟨rfl, boxed _ _⟩
theorem tab_cell {kk : Nat} (h1 : 1 ≤ kk) (h7 : kk ≤ 7) : tab[kk]? = some (fn (60 + kk)) := by
  have : kk = 1 ∨ kk = 2 ∨ kk = 3 ∨ kk = 4 ∨ kk = 5 ∨ kk = 6 ∨ kk = 7 := by omega
  rcases this with rfl | rfl | rfl | rfl | rfl | rfl | rfl <;> rfl
theorem eqf (f : Nat) (w : World) : (binOp .eql 89 (.func (.func f) #[] #[]) .nilFunc).run Try.prog w = .ok (.bool false) w := by kernel_rfl
theorem eqf0 (w : World) : (binOp .eql 89 .nilFunc .nilFunc).run Try.prog w = .ok (.bool true) w := by kernel_rfl
def badN (n a c : Int) : Bool := decide (n < 0) || (decide (a < 0) || (decide (c < 0) || decide (255 < c)))
def badF (k n a c : Int) : Bool := decide (k < 1) || (decide (7 < k) || badN n a c)
/-- what is there behind the first two lines of Strike -/
structure StW (w : World) (k t n a c : Int) (w1 : World) : Prop where
  box : Has w1 w.heap.size #[.int .u8 k, .int .i64 t, .int .i64 n, .int .i64 a, .int .i64 c] 37
  bel : Below w.heap.size w w1
theorem StW.tab {w w1 : World} {k t n a c : Int} (h : StW w k t n a c w1) : Has (w1.alloc (.cells tab.toArray 90)) w.heap.size #[.int .u8 k, .int .i64 t, .int .i64 n, .int .i64 a, .int .i64 c] 37 ∧ Has (w1.alloc (.cells tab.toArray 90)) w1.heap.size tab.toArray 90 ∧ Below w.heap.size w (w1.alloc (.cells tab.toArray 90)) :=
  ⟨h.box.alloc _, Has.new _ _ _ _ rfl, h.bel.trans ((boxed _ _).mono h.bel.size)⟩
set_option maxHeartbeats 2000000 in
set_option maxRecDepth 20000 in
theorem strike_bad (b : Nat) (k t n a c : Int) (hk0 : 0 ≤ k) (hk : k < 256) (h : badF k n a c = true) (w : World) : Calls Try.prog 34 #[ptr b, fv k t n a c] w fun e w' => e = .returned (er 1) ∧ Below w.heap.size w w' := by
  have hD : Calls Try.prog 48 #[] (w.alloc (.cells #[.int .u8 k, .int .i64 t, .int .i64 n, .int .i64 a, .int .i64 c] 37)) fun e w' => e = .returned (.agg tab.toArray) ∧ StW w k t n a c w' := (deeds_any _).mono fun e w' ⟨h1, h2⟩ => ⟨h1, (Has.new w _ #[.int .u8 k, .int .i64 t, .int .i64 n, .int .i64 a, .int .i64 c] 37 rfl).below h2 (by simp), (boxed _ _).trans (h2.mono (by simp))⟩
  unfold badF badN at h
  unfold ptr fv er
  by_cases h7 : 7 < k
  · have q : (8 : Int) ≤ k := by omega
    clear h
    go_enter Try.func34, Try.ntmps34
    go_wp2_with fail
    refine hD.mono ?_
    rintro e w1 ⟨rfl, hw⟩
    obtain ⟨g1, g2, g3⟩ := hw.tab
    obtain ⟨x0, x1, x2, x3, x4⟩ := five_cells g1
    have HB1 := hid g3
    unfold tab fn at *
    clear hD hw g1 g2 g3
    go_wp2_with fail
    go_ret
    exact ⟨rfl, HB1.out⟩
  · have q : ¬ (8 : Int) ≤ k := by omega
    by_cases h0 : k < 1
    · obtain rfl : k = 0 := by omega
      clear h
      go_enter Try.func34, Try.ntmps34
      go_wp2_with fail
      refine hD.mono ?_
      rintro e w1 ⟨rfl, hw⟩
      obtain ⟨g1, g2, g3⟩ := hw.tab
      obtain ⟨x0, x1, x2, x3, x4⟩ := five_cells g1
      have y0 := g2.cell 0
      have hq0 := eqf0
      have HB1 := hid g3
      unfold tab fn at *
      clear hD hw g1 g2 g3
      go_wp2_with fail
      go_ret
      exact ⟨rfl, HB1.out⟩
    · obtain ⟨kk, rfl⟩ := Int.eq_ofNat_of_zero_le hk0
      have hk1 : 1 ≤ kk := by omega
      have hk7 : kk ≤ 7 := by omega
      have hk8 : (kk : Int) < 8 := by omega
      rw [decide_eq_false h0, decide_eq_false h7, Bool.false_or, Bool.false_or] at h
      have hH := hid h
      clear h
      go_enter Try.func34, Try.ntmps34
      go_wp2_with fail
      refine hD.mono ?_
      rintro e w1 ⟨rfl, hw⟩
      obtain ⟨g1, g2, g3⟩ := hw.tab
      obtain ⟨x0, x1, x2, x3, x4⟩ := five_cells g1
      have y0 : (w1.alloc (.cells tab.toArray 90)).cell? ⟨w1.heap.size, kk, none⟩ = some (fn (60 + kk)) := by
        rw [g2.cell kk]; simpa using tab_cell hk1 hk7
      have HB1 := hid g3
      generalize 60 + kk = f at *
      unfold tab fn at *
      have hqf := eqf f
      have q8 : decide ((8 : Int) ≤ (kk : Int)) = false := decide_eq_false (by omega)
      clear hD hw g1 g2 g3 h0 h7 hk
      by_cases j1 : n < 0
      · clear hH
        go_wp2_with fail
        go_ret
        exact ⟨rfl, HB1.out⟩
      · have d1 : decide (n < 0) = false := decide_eq_false j1
        by_cases j2 : a < 0
        · clear hH
          go_wp2_with fail
          go_ret
          exact ⟨rfl, HB1.out⟩
        · have d2 : decide (a < 0) = false := decide_eq_false j2
          by_cases j3 : c < 0
          · clear hH
            go_wp2_with fail
            go_ret
            exact ⟨rfl, HB1.out⟩
          · have d3 : decide (c < 0) = false := decide_eq_false j3
            have j4 : 255 < c := by
              have := hH.out
              rw [d1, d2, d3] at this
              simpa using this
            clear hH
            go_wp2_with fail
            go_ret
            exact ⟨rfl, HB1.out⟩
section
variable {ev : Operand → Value} {o : Oper} {w : World} {x y z : Operand}
theorem rn_ix70 {g k : Nat} (ho : o.op = .indexAddr 90 x y) (hx : ev x = .pointer (some ⟨g, 0, none⟩)) (hy : ev y = .int .u8 (k : Int)) (hk : k < 8) : (execOp ev o).run Try.prog w = .ok (.value (.pointer (some ⟨g, k, none⟩))) w := by
  have q1 : (k : Int) < 8 := by omega
  simp [execOp, ho, hx, hy, go_sem, q1]
end
def strF (B T b kk f : Nat) (fw : Value) (i : Nat) (v : Value) (_ : World) : Prop := match i with
  | 38 => v = ptr B
  | 39 => v = .int .u8 (kk : Int)
  | 40 => v = .pointer (some ⟨T, kk, none⟩)
  | 41 => v = .func (.func f) #[] #[]
  | 42 => v = ptr b
  | 43 => v = fw
  | _ => True
set_option maxHeartbeats 2000000 in
set_option maxRecDepth 20000 in
theorem strike_go {w : World} {S : Nat → Prop} {b : Nat} {s : St} (h : IsSt w S b s) (kk : Nat) (hk1 : 1 ≤ kk) (hk7 : kk ≤ 7) (t : Int) (n a c : Nat) (hc : c < 256) (s' : St)
    (hcall : ∀ W, IsSt W S b s → Calls Try.prog (60 + kk) #[ptr b, fv (kk : Int) t n a c] W fun e w' => e = .returned (.tuple #[]) ∧ After W w' S b s') (hent : ∀ (args : Array Value) (w : World), (callFunc (60 + kk) args).run Try.prog w = .ok (.enter (60 + kk) args) w) : Calls Try.prog 34 #[ptr b, fv (kk : Int) t n a c] w fun e w' => e = .returned (er 0) ∧ After w w' S b s' := by
  have hD : Calls Try.prog 48 #[] (w.alloc (.cells #[.int .u8 (kk : Int), .int .i64 t, .int .i64 (n : Int), .int .i64 (a : Int), .int .i64 (c : Int)] 37)) fun e w' => e = .returned (.agg tab.toArray) ∧ StW w (kk : Int) t n a c w' := (deeds_any _).mono fun e w' ⟨h1, h2⟩ => ⟨h1, (Has.new w _ #[.int .u8 (kk : Int), .int .i64 t, .int .i64 (n : Int), .int .i64 (a : Int), .int .i64 (c : Int)] 37 rfl).below h2 (by simp), (boxed _ _).trans (h2.mono (by simp))⟩
  have HI := hid h
  have HC := hid hcall
  clear h hcall
  have q8 : decide ((8 : Int) ≤ (kk : Int)) = false := decide_eq_false (by omega)
  have q9 : ¬ (8 : Int) ≤ (kk : Int) := by omega
  have q10 : (kk : Int) < 8 := by omega
  have hk8 : kk < 8 := by omega
  have d1 : ¬ (n : Int) < 0 := by omega
  have d2 : ¬ (a : Int) < 0 := by omega
  have d3 : ¬ (c : Int) < 0 := by omega
  have d4 : ¬ (255 : Int) < (c : Int) := by omega
  unfold ptr fv er
  go_enter Try.func34, Try.ntmps34
  go_wp2_with fail
  refine hD.mono ?_
  rintro e w1 ⟨rfl, hw⟩
  obtain ⟨g1, g2, g3⟩ := hw.tab
  obtain ⟨x0, x1, x2, x3, x4⟩ := five_cells g1
  have y0 : (w1.alloc (.cells tab.toArray 90)).cell? ⟨w1.heap.size, kk, none⟩ = some (fn (60 + kk)) := by
    rw [g2.cell kk]; simpa using tab_cell hk1 hk7
  have HB1 := hid g3
  have hqf := eqf (60 + kk)
  generalize 60 + kk = f at *
  unfold tab fn at *
  clear hD hw g1 g2 g3
  go_wp2_with fail
  generalize hW2 : w1.alloc (.cells #[.nilFunc, .func (.func 61) #[] #[], .func (.func 62) #[] #[], .func (.func 63) #[] #[], .func (.func 64) #[] #[], .func (.func 65) #[] #[], .func (.func 66) #[] #[], .func (.func 67) #[] #[]] 90) = W2 at *
  refine Tl.wp_mix_lit (by kernel_rfl) 6 [38, 39, 40, 41, 42, 43] 45 rfl (by kernel_rfl) (AtW W2.drew) (strF w.heap.size w1.heap.size b kk f (.agg #[.int .u8 (kk : Int), .int .i64 t, .int .i64 (n : Int), .int .i64 (a : Int), .int .i64 (c : Int)])) rfl
    ⟨fun a' W' hC hF => ?_, fun a' W' hC hF => ?_, fun a' W' hC hF => ?_, fun a' W' hC hF => ?_, fun a' W' hC hF => ?_, fun a' W' hC hF => ?_, trivial⟩ ?_
  · exact Tl.sm_v 38 _ rfl (Tl.wanted_none rfl) hC rfl (rn_f32_0 rfl ((hF 3 (by decide +kernel)).2 (by decide)))
  · exact Tl.sm_v 39 _ rfl (Tl.wanted_none rfl) hC rfl (rn_load5 rfl ((hF 38 (by decide +kernel)).1 (by decide)) (by rw [show W' = _ from hC]; exact x0))
  · exact Tl.sm_v 40 _ rfl (Tl.wanted_none rfl) hC rfl (rn_ix70 rfl ((hF 5 (by decide +kernel)).2 (by decide)) ((hF 39 (by decide +kernel)).1 (by decide)) hk8)
  · exact Tl.sm_v 41 _ rfl (Tl.wanted_none rfl) hC rfl (rn_load69 rfl ((hF 40 (by decide +kernel)).1 (by decide)) (by rw [show W' = _ from hC]; exact y0))
  · exact Tl.sm_v 42 _ rfl (Tl.wanted_none rfl) hC rfl (rn_move rfl ((hF 0 (by decide +kernel)).2 (by decide)))
  · exact Tl.sm_v 43 _ rfl (Tl.wanted_none rfl) hC rfl (rn_load32 rfl ((hF 3 (by decide +kernel)).2 (by decide)) (by rw [show W' = _ from hC]; exact x0) (by rw [show W' = _ from hC]; exact x1) (by rw [show W' = _ from hC]; exact x2) (by rw [show W' = _ from hC]; exact x3) (by rw [show W' = _ from hC]; exact x4))
  intro v wB hw hv
  obtain rfl : wB = _ := hw
  have v41 : v 41 = .func (.func f) #[] #[] := hv 41 (by decide)
  have v42 : v 42 = .pointer (some ⟨b, 0, none⟩) := hv 42 (by decide)
  have v43 : v 43 = .agg #[.int .u8 (kk : Int), .int .i64 t, .int .i64 (n : Int), .int .i64 (a : Int), .int .i64 (c : Int)] := hv 43 (by decide)
  have hA := HC.out W2.drew (HI.out.below HB1.out).drew
  unfold ptr fv at hA
  clear hv x0 x1 x2 x3 x4 y0 hW2 HC
  simp only [Tl.fill, List.drop_succ_cons, List.drop_zero]
  simp only [Act.put, List.setIfInBounds_toArray, List.set_cons_succ, List.set_cons_zero, v41, v42, v43]
  go_wp2_with fail
  refine hA.mono ?_
  rintro e w3 ⟨rfl, hA3⟩
  have HF := hid (hA3.front HB1.out.drew)
  clear hA hA3
  go_wp2_with fail
  go_ret
  exact ⟨rfl, HF.out⟩
def strikeS (s : St) (k n a c : Int) : Int × St := if badF k n a c then (1, s) else (0, match k with
  | 1 => { s with seen := [], writes := [], live := false }
  | 2 => loseS s n.toNat
  | 3 => bendS s n.toNat a.toNat c.toNat
  | 4 => { s with down := true }
  | 5 => { s with down := false }
  | 6 => { s with refuse := some n.toNat }
  | _ => { s with room := some n.toNat })
theorem strike_any {w : World} {S : Nat → Prop} {b : Nat} {s : St} (h : IsSt w S b s) {N : Nat} (hF : Fit N s) (hN : N ≤ 1000000) (k t n a c : Int) (hk0 : 0 ≤ k) (hk : k < 256) (hn : n < 9223372036854775808) (ha : a < 9223372036854775808) : Calls Try.prog 34 #[ptr b, fv k t n a c] w fun e w' => e = .returned (er (strikeS s k n a c).1) ∧ After w w' S b (strikeS s k n a c).2 := by
  unfold strikeS
  cases hb : badF k n a c with
  | true => exact (strike_bad b k t n a c hk0 hk hb w).mono fun e w' ⟨h1, h2⟩ => ⟨h1, After.of_below h h2⟩
  | false =>
    have hb' := hb
    unfold badF badN at hb'
    simp only [Bool.or_eq_false_iff, decide_eq_false_iff_not] at hb'
    obtain ⟨b1, b2, b3, b4, b5, b6⟩ := hb'
    obtain ⟨kk, rfl⟩ := Int.eq_ofNat_of_zero_le hk0
    obtain ⟨n', rfl⟩ := Int.eq_ofNat_of_zero_le (show 0 ≤ n by omega)
    obtain ⟨a', rfl⟩ := Int.eq_ofNat_of_zero_le (show 0 ≤ a by omega)
    obtain ⟨c', rfl⟩ := Int.eq_ofNat_of_zero_le (show 0 ≤ c by omega)
    have hs := Nat.le_trans hF.seen hN
    have : kk = 1 ∨ kk = 2 ∨ kk = 3 ∨ kk = 4 ∨ kk = 5 ∨ kk = 6 ∨ kk = 7 := by omega
    rcases this with rfl | rfl | rfl | rfl | rfl | rfl | rfl
    · exact strike_go h 1 (by omega) (by omega) t n' a' c' (by omega) _ (fun W hW => wipe_any hW _ _ _ _ _) (fun _ _ => by kernel_rfl)
    · exact strike_go h 2 (by omega) (by omega) t n' a' c' (by omega) _ (fun W hW => lose_any hW hs hF.names _ _ n' _ _ (by omega)) (fun _ _ => by kernel_rfl)
    · exact strike_go h 3 (by omega) (by omega) t n' a' c' (by omega) _ (fun W hW => bend_any hW hs hF.names hF.datas _ _ n' a' c' (by omega) (by omega) (by omega)) (fun _ _ => by kernel_rfl)
    · exact strike_go h 4 (by omega) (by omega) t n' a' c' (by omega) _ (fun W hW => goDown_any hW _ _ _ _ _) (fun _ _ => by kernel_rfl)
    · exact strike_go h 5 (by omega) (by omega) t n' a' c' (by omega) _ (fun W hW => comeUp_any hW _ _ _ _ _) (fun _ _ => by kernel_rfl)
    · exact strike_go h 6 (by omega) (by omega) t n' a' c' (by omega) _ (fun W hW => refuseOne_any hW _ _ n' _ _) (fun _ _ => by kernel_rfl)
    · exact strike_go h 7 (by omega) (by omega) t n' a' c' (by omega) _ (fun W hW => takeRoom_any hW _ _ n' _ _) (fun _ _ => by kernel_rfl)
set_option maxRecDepth 20000 in
theorem strike_nil (k t n a c : Int) (w : World) : Calls Try.prog 34 #[.pointer none, fv k t n a c] w fun e w' => e = .returned (er 2) ∧ Below w.heap.size w w' := by
  have HB := hid (boxed w (.cells #[.int .u8 k, .int .i64 t, .int .i64 n, .int .i64 a, .int .i64 c] 37))
  unfold fv er
  go_enter Try.func34, Try.ntmps34
  go_wp2_with fail
  go_ret
  exact ⟨rfl, HB.out⟩
end Go.Proofs.Ytgdiaflikfdnaaa
