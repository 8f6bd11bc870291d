/- The contracts of Put and Del. -/
import Derived.Test.YtgdiaflikfdnaaaTry
namespace Go.Proofs.Ytgdiaflikfdnaaa
open Go.RowKit Go.Maps
/-- what is said of a store's sizes: so that its numbers are numbers -/
structure Fit (N : Nat) (s : St) : Prop where
  seen : s.seen.length ≤ N
  writes : s.writes.length ≤ N
  names : ∀ p ∈ s.seen, p.1.size ≤ 80
  datas : ∀ p ∈ s.seen, p.2.size ≤ 65536
  wnames : ∀ q ∈ s.writes, q.name.size ≤ 80
  was : ∀ q ∈ s.writes, (q.was.getD ⟨#[]⟩).size ≤ 65536
  now : ∀ q ∈ s.writes, (q.now.getD ⟨#[]⟩).size ≤ 65536
  refuse : ∀ k, s.refuse = some k → k < 9223372036854775808
  room : ∀ k, s.room = some k → k < 9223372036854775808
def badName (n d : ByteArray) : Bool := decide (n.size = 0) || (decide (80 < n.size) || decide (65536 < d.size))
def putS (s : St) (n d : ByteArray) : Int × St := if badName n d then (1, s) else if s.down then (51, s) else if over s n d then (52, s) else tried s n (some d)
def obv (n d : ByteArray) : Value := .agg #[.string n, .string d]
set_option maxHeartbeats 1000000 in
set_option maxRecDepth 20000 in
theorem put_bad (v : Value) (hv : ∃ b, v = ptr b) (n d : ByteArray) (h : badName n d = true) (w : World) : Calls Try.prog 32 #[v, obv n d] w fun e w' => e = .returned (er 1) ∧ Below w.heap.size w w' := by
  have HF := hid (boxed w (.cells #[.string n, .string d] 33))
  obtain ⟨b, rfl⟩ := hv
  unfold badName at h
  unfold ptr obv er
  by_cases h0 : n.size = 0
  · have q0 : ((n.size : Int) == 0) = true := beq_iff_eq.2 (by omega)
    clear h
    go_enter Try.func32, Try.ntmps32
    go_wp2_with fail
    go_ret
    exact ⟨rfl, HF.out⟩
  · have q0 : ((n.size : Int) == 0) = false := beq_eq_false_iff_ne.2 (by omega)
    by_cases h1 : 80 < n.size
    · have q1 : (80 : Int) < (n.size : Int) := by omega
      clear h h0
      go_enter Try.func32, Try.ntmps32
      go_wp2_with fail
      go_ret
      exact ⟨rfl, HF.out⟩
    · have q1 : ¬ (80 : Int) < (n.size : Int) := by omega
      have h2 : 65536 < d.size := by
        rw [decide_eq_false h0, decide_eq_false h1] at h
        simpa using h
      have q2 : (65536 : Int) < (d.size : Int) := by omega
      clear h h0 h1
      go_enter Try.func32, Try.ntmps32
      go_wp2_with fail
      go_ret
      exact ⟨rfl, HF.out⟩
set_option maxRecDepth 20000 in
theorem put_nil (n d : ByteArray) (w : World) : Calls Try.prog 32 #[.pointer none, obv n d] w fun e w' => e = .returned (er 2) ∧ Below w.heap.size w w' := by
  have HF := hid (boxed w (.cells #[.string n, .string d] 33))
  unfold obv er
  go_enter Try.func32, Try.ntmps32
  go_wp2_with fail
  go_ret
  exact ⟨rfl, HF.out⟩
set_option maxHeartbeats 1000000 in
set_option maxRecDepth 20000 in
theorem put_any {w : World} {S : Nat → Prop} {b : Nat} {s : St} (h : IsSt w S b s) {N : Nat} (hF : Fit N s) (hN : N ≤ 1000000) (n d : ByteArray) : Calls Try.prog 32 #[ptr b, obv n d] w fun e w' => e = .returned (er (putS s n d).1) ∧ After w w' S b (putS s n d).2 := by
  unfold putS
  cases hbad : badName n d with
  | true => exact (put_bad _ ⟨b, rfl⟩ n d hbad w).mono fun e w' ⟨h1, h2⟩ => ⟨h1, After.of_below h h2⟩
  | false =>
    simp only [Bool.false_eq_true, if_false]
    unfold badName at hbad
    simp only [Bool.or_eq_false_iff, decide_eq_false_iff_not] at hbad
    obtain ⟨h0, h1, h2⟩ := hbad
    have q0 : ((n.size : Int) == 0) = false := beq_eq_false_iff_ne.2 (by omega)
    have q1 : ¬ (80 : Int) < (n.size : Int) := by omega
    have q2 : ¬ (65536 : Int) < (d.size : Int) := by omega
    have hnl : n.size ≤ maxLen := by unfold maxLen; omega
    have hbox : Has (w.alloc (.cells #[.string n, .string d] 33)) w.heap.size #[.string n, .string d] 33 := Has.new _ _ _ _ rfl
    have HB := hid (boxed w (.cells #[.string n, .string d] 33))
    have h' := h.below HB.out
    obtain ⟨mo, wv, ⟨c0, c1, c2, c3, c4, c5, c6⟩, _, _, _⟩ := h'.cells
    have hO := over_any h' (Nat.le_trans hF.seen hN) hF.datas n d hnl (by omega)
    have hT : Hid (∀ W, Below (w.alloc (.cells #[.string n, .string d] 33)).heap.size (w.alloc (.cells #[.string n, .string d] 33)) W → Calls Try.prog 47 #[ptr b, .string n, cv (some d)] W fun e w' => e = .returned (er (tried s n (some d)).1) ∧ After W w' S b (tried s n (some d)).2) := hid fun W hW =>
      try_any (h'.below hW) hF.refuse (Nat.le_trans hF.seen hN) (Nat.le_trans hF.writes hN) n (some d) (by omega) (by show d.size ≤ _; omega)
    have HI := hid h
    have HX := hid hbox
    clear h h' hF hN hnl h0 h1 h2 hbox c0 c1 c3 c4 c5 c6
    unfold ptr at hT hO ⊢
    unfold obv er at *
    cases hd : s.down with
    | true =>
      rw [hd] at c2
      clear hT hO
      go_enter Try.func32, Try.ntmps32
      go_wp2_with fail
      go_ret
      exact ⟨rfl, After.of_below HI.out HB.out⟩
    | false =>
      rw [hd] at c2
      have HD := hid hd
      clear hd
      cases ho : over s n d with
      | true =>
        rw [ho] at hO
        clear hT ho
        go_enter Try.func32, Try.ntmps32
        go_wp2_with fail
        refine hO.mono ?_
        rintro e w1 ⟨rfl, hb⟩
        have HB1 := hid (HB.out.trans (hb.mono (by simp)))
        clear hO hb
        go_wp2_with fail
        go_ret
        exact ⟨rfl, After.of_below HI.out HB1.out⟩
      | false =>
        rw [ho] at hO
        have HOv := hid ho
        clear ho
        go_enter Try.func32, Try.ntmps32
        go_wp2_with fail
        refine hO.mono ?_
        rintro e w1 ⟨rfl, hb⟩
        have hx1 := HX.out.below hb HX.out.lt
        have k0 := hx1.cell 0
        have k1 := hx1.cell 1
        have HT := hT.out w1 hb
        have HB1 := hid (HB.out.trans (hb.mono (by simp)))
        clear hO hb hx1 hT
        rw [cv_some] at HT
        go_wp2_with fail
        refine HT.mono ?_
        rintro e w2 ⟨rfl, hA⟩
        have HA := hid (hA.front HB1.out)
        clear HT hA
        go_wp2_with fail
        go_ret
        exact ⟨rfl, HA.out⟩
def delS (s : St) (n : ByteArray) : Int × St := if (get s n).2 = 0 then tried s n none else ((get s n).2, s)
set_option maxHeartbeats 1000000 in
set_option maxRecDepth 20000 in
theorem del_any {w : World} {S : Nat → Prop} {b : Nat} {s : St} (h : IsSt w S b s) {N : Nat} (hF : Fit N s) (hN : N ≤ 1000000) (n : ByteArray) (hn : n.size ≤ 1000000) : Calls Try.prog 36 #[ptr b, .string n] w fun e w' => e = .returned (er (delS s n).1) ∧ After w w' S b (delS s n).2 := by
  have hnl : n.size ≤ maxLen := by unfold maxLen; omega
  have hG := get_any h n hnl
  have hT : Hid (∀ W, Below w.heap.size w W → Calls Try.prog 47 #[ptr b, .string n, cv none] W fun e w' => e = .returned (er (tried s n none).1) ∧ After W w' S b (tried s n none).2) := hid fun W hW =>
      try_any (h.below hW) hF.refuse (Nat.le_trans hF.seen hN) (Nat.le_trans hF.writes hN) n none hn (by show (0 : Nat) ≤ _; omega)
  have HI := hid h
  clear h hF hN hnl
  unfold delS
  unfold ptr er at *
  generalize (get s n).1 = d at *
  generalize hge : (get s n).2 = g at *
  by_cases h0 : g = 0
  · subst h0
    go_enter Try.func36, Try.ntmps36
    go_wp2_with fail
    refine hG.mono ?_
    rintro e w1 ⟨rfl, hb⟩
    have HT := hT.out w1 hb
    have HB1 := hid hb
    rw [cv_none] at HT
    clear hT hb hG hge
    go_wp2_with fail
    refine HT.mono ?_
    rintro e w2 ⟨rfl, hA⟩
    have HA := hid (hA.front HB1.out)
    clear HT hA
    go_wp2_with fail
    go_ret
    exact ⟨rfl, HA.out⟩
  · go_enter Try.func36, Try.ntmps36
    go_wp2_with fail
    refine hG.mono ?_
    rintro e w1 ⟨rfl, hb⟩
    have HB1 := hid hb
    have H0 := hid h0
    clear hT hb hG hge
    go_wp2_with fail
    go_ret
    exact ⟨rfl, After.of_below HI.out HB1.out⟩
set_option maxRecDepth 20000 in
theorem del_nil (n : ByteArray) (w : World) : Calls Try.prog 36 #[.pointer none, .string n] w fun e w' => e = .returned (er 2) ∧ Below w.heap.size w w' := by
  have hG := get_nil n w
  unfold er at *
  go_enter Try.func36, Try.ntmps36
  go_wp2_with fail
  refine hG.mono ?_
  rintro e w1 ⟨rfl, rfl⟩
  go_wp2_with fail
  go_ret
  exact ⟨rfl, Below.refl _ _⟩
end Go.Proofs.Ytgdiaflikfdnaaa
