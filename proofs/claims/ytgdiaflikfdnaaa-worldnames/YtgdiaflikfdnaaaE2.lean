/- awake: the first example. -/
import Derived.Test.YtgdiaflikfdnaaaW11
namespace Go.Proofs.Ytgdiaflikfdnaaa
open Go.RowKit Go.Maps
variable {w0 w w' : World} {b : Nat} {W W' : Wd}
/-- a world that was made since w0; all that stood stands -/
def WA (w0 w : World) (b : Nat) (W : Wd) : Prop := ∃ S g, IsWd w S b g W ∧ (∀ i, S i → w0.heap.size ≤ i) ∧ Below w0.heap.size w0 w
theorem WA.next (h : WA w0 w b W) (hb : Below w.heap.size w w') : WA w0 w' b W := by
  obtain ⟨S, g, h1, h2, h3⟩ := h
  exact ⟨S, g, h1.below hb, h2, h3.trans (hb.mono h3.size)⟩
theorem WA.base (h : WA w0 w b W) : Below w0.heap.size w0 w := by
  obtain ⟨S, g, h1, h2, h3⟩ := h
  exact h3
theorem WA.go (h : WA w0 w b W) : ∃ S g, IsWd w S b g W ∧ (∀ i, S i → w0.heap.size ≤ i) ∧ Below w0.heap.size w0 w ∧ ∀ {w' W'}, AfterW w w' S b g W' → WA w0 w' b W' := by
  obtain ⟨S, g, h1, h2, h3⟩ := h
  refine ⟨S, g, h1, h2, h3, fun {w' W'} ⟨S', a1, a2, a3⟩ => ⟨S', g, a1, fun i hi => ?_, h3.trans (a3.below h3.size h2)⟩⟩
  rcases a2 i hi with h | h
  · exact h2 i h
  · exact Nat.le_trans h3.size h
theorem WA.new (w0 : World) (n : Nat) (hn : 1 ≤ n ∧ n ≤ 12) : Calls Try.prog 5 #[.int .i64 (n : Int)] w0 fun e w' => ∃ b l, e = .returned (.tuple #[ptr b, er 0]) ∧ WA w0 w' b (newW l) ∧ l.length = n ∧ ∀ x ∈ l, x.st = st0 ∧ x.sus = false :=
  wnew_any w0 n _ (fun h => absurd ⟨by omega, by omega⟩ h) fun _ b g S l w' h1 h2 h3 h4 h5 => ⟨b, l, rfl, ⟨S, g, h1, h4, h5⟩, by simpa using h2, h3⟩
theorem WA.n (h : WA w0 w b W) : Calls Try.prog 15 #[ptr b] w fun e w' => e = .returned (.int .i64 (W.l.length : Int)) ∧ WA w0 w' b W := by
  obtain ⟨S, g, h1, h2, h3⟩ := h
  exact (n_any h1).mono fun _ _ ⟨e1, e2⟩ => ⟨e1, by rw [e2]; exact ⟨S, g, h1, h2, h3⟩⟩
theorem WA.dark (h : WA w0 w b W) : Calls Try.prog 17 #[ptr b] w fun e w' => e = .returned (.bool W.dark) ∧ WA w0 w' b W := by
  obtain ⟨S, g, h1, h2, h3⟩ := h
  exact (dark_any h1).mono fun _ _ ⟨e1, e2⟩ => ⟨e1, by rw [e2]; exact ⟨S, g, h1, h2, h3⟩⟩
theorem WA.calls (h : WA w0 w b W) : Calls Try.prog 16 #[ptr b] w fun e w' => e = .returned (.int .i64 (W.calls : Int)) ∧ WA w0 w' b W := by
  obtain ⟨S, g, h1, h2, h3⟩ := h
  exact (calls_any h1).mono fun _ _ ⟨e1, e2⟩ => ⟨e1, by rw [e2]; exact ⟨S, g, h1, h2, h3⟩⟩
theorem WA.cut (h : WA w0 w b W) (a : Int) {e : Int} (he : cutW W a = (e, W')) : Calls Try.prog 9 #[ptr b, .int .i64 a] w fun x w' => x = .returned (er e) ∧ WA w0 w' b W' := by
  obtain ⟨S, g, h1, h2, h3, k⟩ := h.go
  exact (cut_any h1 a).mono fun _ _ ⟨e1, e2⟩ => by rw [he] at e1 e2; exact ⟨e1, k e2⟩
theorem WA.put (h : WA w0 w b W) (hc : W.calls ≤ 1000000) (hl : W.left < 9223372036854775808) {N : Nat} (hF : ∀ x ∈ W.l, Fit N x.st) (hN : N ≤ 1000000) (i : Int) (n d : ByteArray) {e : Int} (he : askS W i (fun s => putS s n d) = (e, W')) : Calls Try.prog 8 #[ptr b, .int .i64 i, obv n d] w fun x w' => x = .returned (er e) ∧ WA w0 w' b W' := by
  obtain ⟨S, g, h1, h2, h3, k⟩ := h.go
  exact (wput_any h1 hc hl hF hN i n d).mono fun _ _ ⟨e1, e2⟩ => by rw [he] at e1 e2; exact ⟨e1, k e2⟩
theorem WA.sync (h : WA w0 w b W) (hc : W.calls ≤ 1000000) (hl : W.left < 9223372036854775808) (i : Int) {e : Int} (he : askS W i Ytgdiaflikfdnaaa.sync = (e, W')) : Calls Try.prog 13 #[ptr b, .int .i64 i] w fun x w' => x = .returned (er e) ∧ WA w0 w' b W' := by
  obtain ⟨S, g, h1, h2, h3, k⟩ := h.go
  exact (wsync_any h1 hc hl i).mono fun _ _ ⟨e1, e2⟩ => by rw [he] at e1 e2; exact ⟨e1, k e2⟩
theorem WA.get (h : WA w0 w b W) (hc : W.calls ≤ 1000000) (hl : W.left < 9223372036854775808) (i : Int) (n : ByteArray) (hn : n.size ≤ 1000000) {d : ByteArray} {e : Int} (hd : getW W i n = (d, e)) (he : askW W i = W') : Calls Try.prog 6 #[ptr b, .int .i64 i, .string n] w fun x w' => x = .returned (.tuple #[.string d, er e]) ∧ WA w0 w' b W' := by
  obtain ⟨S, g, h1, h2, h3, k⟩ := h.go
  exact (wget_any h1 hc hl i n hn).mono fun _ _ ⟨e1, e2⟩ => by rw [hd] at e1; rw [he] at e2; exact ⟨e1, k e2⟩
theorem WA.crash0 (h : WA w0 w b W) (hn : W.l.length ≤ 1000) {N : Nat} (hF : ∀ x ∈ W.l, Fit N x.st ∧ (x.st.writes ≠ [] → x.st.live = true)) (hN : N ≤ 400000) (he : crashW W [] = W') : Calls Try.prog 14 #[ptr b, .slice none 0 0] w fun x w' => x = .returned (er 0) ∧ WA w0 w' b W' := by
  obtain ⟨S, g, h1, h2, h3, k⟩ := h.go
  exact (wcrash_any h1 hn hF hN h3 h2 (.slice none 0 0) [] ⟨.inl ⟨none, 0, rfl, rfl⟩, fun _ h => (by cases h)⟩ (by decide)).mono fun _ _ ⟨e1, e2⟩ => by rw [he] at e2; exact ⟨e1, k e2⟩
theorem row_is {w : World} {B t k n : Nat} {v : Value} {xs : List Value} (h : w.ownsRow B t k v n xs) : ∃ a c, v = .slice a n c := by
  rcases h.2 with ⟨e, e2, _⟩ | ⟨g1, c1, cur1, e1, _⟩
  · exact ⟨none, 0, e⟩
  · exact ⟨_, _, e1⟩
theorem WA.objs (h : WA w0 w b W) (hs : ∀ x ∈ W.l, x.st.seen.length ≤ 1000000) (i : Int) {L : List Ob} (he : objsW W i = L) : Calls Try.prog 19 #[ptr b, .int .i64 i] w fun x w' => ∃ a c, x = .returned (.slice a L.length c) ∧ WA w0 w' b W := by
  obtain ⟨S, g, h1, h2, h3, k⟩ := h.go
  refine (wobjs_any h1 hs i).mono fun _ _ ⟨v, e1, e2, e3⟩ => ?_
  rw [he] at e2
  obtain ⟨a, c, rfl⟩ := row_is e2
  exact ⟨a, c, e1, WA.next ⟨S, g, h1, h2, h3⟩ e3⟩
theorem WA.sus (h : WA w0 w b W) (hn : W.l.length ≤ 1000) {L : List Nat} (he : susL W.l W.l.length = L) : Calls Try.prog 11 #[ptr b] w fun x w' => ∃ a c, x = .returned (.slice a L.length c) ∧ WA w0 w' b W := by
  obtain ⟨S, g, h1, h2, h3, k⟩ := h.go
  refine (wsus_any h1 hn).mono fun _ _ ⟨v, e1, e2, e3⟩ => ?_
  rw [he] at e2
  obtain ⟨a, c, rfl⟩ := row_is e2
  exact ⟨a, c, e1, WA.next ⟨S, g, h1, h2, h3⟩ e3⟩
/-- Fit, reckoned -/
def fitB (s : St) : Bool := decide (s.seen.length ≤ 100) && decide (s.writes.length ≤ 100) && s.seen.all (fun p => decide (p.1.size ≤ 80) && decide (p.2.size ≤ 65536)) && s.writes.all (fun q => decide (q.name.size ≤ 80) && decide ((q.was.getD ⟨#[]⟩).size ≤ 65536) && decide ((q.now.getD ⟨#[]⟩).size ≤ 65536)) && decide (s.refuse.getD 0 < 1000) && decide (s.room.getD 0 < 1000)
theorem fit_of {s : St} (h : fitB s = true) : Fit 100 s := by
  unfold fitB at h
  simp only [Bool.and_eq_true, decide_eq_true_eq, List.all_eq_true] at h
  obtain ⟨⟨⟨⟨⟨h1, h2⟩, h3⟩, h4⟩, h5⟩, h6⟩ := h
  refine ⟨h1, h2, fun p hp => (h3 p hp).1, fun p hp => (h3 p hp).2, fun q hq => (h4 q hq).1.1, fun q hq => (h4 q hq).1.2, fun q hq => (h4 q hq).2, fun k hk => ?_, fun k hk => ?_⟩
  · rw [hk] at h5; simp at h5; omega
  · rw [hk] at h6; simp at h6; omega
def aw1 : St := ⟨[(⟨#[97]⟩, ⟨#[120]⟩)], [⟨⟨#[97]⟩, none, some ⟨#[120]⟩⟩], false, none, none, true⟩
def aw2 : St := (crashS aw1 [])
def aw3 : St := (crashS st0 [])
def aw4 : St := (putS aw3 ⟨#[98]⟩ ⟨#[]⟩).2
def aw5 : St := (sync aw4).2
theorem aw1_is : putS st0 ⟨#[97]⟩ ⟨#[120]⟩ = (0, aw1) := by decide +kernel
theorem aw4_is : putS aw3 ⟨#[98]⟩ ⟨#[]⟩ = (0, aw4) := by decide +kernel
theorem aw5_is : sync aw4 = (0, aw5) := by decide +kernel
theorem aw_fit : Fit 100 st0 ∧ Fit 100 aw1 ∧ Fit 100 aw2 ∧ Fit 100 aw3 ∧ Fit 100 aw4 ∧ Fit 100 aw5 := ⟨fit_of (by decide +kernel), fit_of (by decide +kernel), fit_of (by decide +kernel), fit_of (by decide +kernel), fit_of (by decide +kernel), fit_of (by decide +kernel)⟩
def aw (x y : St) (p q c : Nat) (d t : Bool) (l : Nat) : Wd := ⟨[⟨p, x, false⟩, ⟨q, y, false⟩], c, d, t, l⟩
theorem aw_two {x y : St} {p q c : Nat} {d t : Bool} {l : Nat} {P : St → Prop} (h1 : P x) (h2 : P y) : ∀ z ∈ (aw x y p q c d t l).l, P z.st := fun z hz => by
  unfold aw at hz
  simp only [List.mem_cons, List.not_mem_nil, or_false] at hz
  rcases hz with rfl | rfl
  · exact h1
  · exact h2
theorem aw_s1 (p q : Nat) : cutW (aw st0 st0 p q 0 false false 0) 1 = (0, aw st0 st0 p q 0 false true 1) := by kernel_rfl
theorem aw_s2 (p q : Nat) : askS (aw st0 st0 p q 0 false true 1) 0 (fun s => putS s ⟨#[97]⟩ ⟨#[120]⟩) = (0, aw aw1 st0 p q 1 false true 0) := by kernel_rfl
theorem aw_s3 (p q : Nat) : askS (aw aw1 st0 p q 1 false true 0) 0 sync = (56, aw aw1 st0 p q 2 true true 0) := by kernel_rfl
theorem aw_s4 (p q : Nat) : crashW (aw aw1 st0 p q 2 true true 0) [] = aw aw2 aw3 p q 2 false false 0 := by kernel_rfl
theorem aw_s5 (p q : Nat) : getW (aw aw2 aw3 p q 2 false false 0) 0 ⟨#[97]⟩ = (⟨#[]⟩, 5) ∧ askW (aw aw2 aw3 p q 2 false false 0) 0 = aw aw2 aw3 p q 3 false false 0 := ⟨by kernel_rfl, by kernel_rfl⟩
theorem aw_s6 (p q : Nat) : askS (aw aw2 aw3 p q 3 false false 0) 1 (fun s => putS s ⟨#[98]⟩ ⟨#[]⟩) = (0, aw aw2 aw4 p q 4 false false 0) := by kernel_rfl
theorem aw_s7 (p q : Nat) : askS (aw aw2 aw4 p q 4 false false 0) 1 sync = (0, aw aw2 aw5 p q 5 false false 0) := by kernel_rfl
theorem aw_s8 (p q : Nat) : objsW (aw aw2 aw5 p q 5 false false 0) 1 = [(⟨#[98]⟩, ⟨#[]⟩)] := by kernel_rfl
theorem aw_s9 (p q : Nat) : susL (aw aw2 aw5 p q 5 false false 0).l (aw aw2 aw5 p q 5 false false 0).l.length = [] := by kernel_rfl
theorem aw_lv : aw1.writes ≠ [] → aw1.live = true := by decide +kernel
theorem st0_lv : st0.writes ≠ [] → st0.live = true := by decide +kernel
theorem aw_len : ∀ s ∈ [aw2, aw5], s.seen.length ≤ 1000000 := by decide +kernel
set_option maxHeartbeats 4000000 in
set_option maxRecDepth 20000 in
theorem awake_true (w : World) : Calls Try.prog 21 #[] w fun e w' => e = .returned (.bool true) ∧ Below w.heap.size w w' := by
  go_enter Try.func21, Try.ntmps21
  go_wp2_with fail
  refine (WA.new w 2 (by decide)).mono ?_
  rintro x w1 ⟨b, l, rfl, H, hl, hx⟩
  obtain ⟨p, q, rfl⟩ : ∃ p q, l = [⟨p, st0, false⟩, ⟨q, st0, false⟩] := by
    match l, hl, hx with
    | [⟨p, s, u⟩, ⟨q, t, v⟩], _, hx =>
      have h1 := hx ⟨p, s, u⟩ (by simp)
      have h2 := hx ⟨q, t, v⟩ (by simp)
      simp only at h1 h2
      rw [h1.1, h1.2, h2.1, h2.2]
      exact ⟨p, q, rfl⟩
  clear hl hx
  replace H : WA w w1 b (aw st0 st0 p q 0 false false 0) := H
  unfold ptr er
  go_wp2_with fail
  refine (WA.n H).mono ?_
  rintro x w2 ⟨rfl, H⟩
  simp only [show (aw st0 st0 p q 0 false false 0).l.length = 2 from rfl]
  go_wp2_with fail
  refine (WA.cut H 1 (aw_s1 p q)).mono ?_
  rintro x w3 ⟨rfl, H⟩
  unfold er
  go_wp2_with fail
  refine (WA.put H (by simp [aw]) (by simp [aw]) (aw_two aw_fit.1 aw_fit.1) (by decide) 0 ⟨#[97]⟩ ⟨#[120]⟩ (aw_s2 p q)).mono ?_
  rintro x w4 ⟨rfl, H⟩
  unfold er
  go_wp2_with fail
  refine (WA.dark H).mono ?_
  rintro x w5 ⟨rfl, H⟩
  simp only [show (aw aw1 st0 p q 1 false true 0).dark = false from rfl]
  go_wp2_with fail
  refine (WA.sync H (by simp [aw]) (by simp [aw]) 0 (aw_s3 p q)).mono ?_
  rintro x w6 ⟨rfl, H⟩
  unfold er
  go_wp2_with fail
  refine (WA.dark H).mono ?_
  rintro x w7 ⟨rfl, H⟩
  simp only [show (aw aw1 st0 p q 2 true true 0).dark = true from rfl]
  go_wp2_with fail
  refine (WA.calls H).mono ?_
  rintro x w8 ⟨rfl, H⟩
  simp only [show (aw aw1 st0 p q 2 true true 0).calls = 2 from rfl]
  go_wp2_with fail
  refine (WA.crash0 H (by simp [aw]) (aw_two (P := fun s => Fit 100 s ∧ (s.writes ≠ [] → s.live = true)) ⟨aw_fit.2.1, aw_lv⟩ ⟨aw_fit.1, st0_lv⟩) (by decide) (aw_s4 p q)).mono ?_
  rintro x w9 ⟨rfl, H⟩
  unfold er
  go_wp2_with fail
  refine (WA.dark H).mono ?_
  rintro x w10 ⟨rfl, H⟩
  simp only [show (aw aw2 aw3 p q 2 false false 0).dark = false from rfl]
  go_wp2_with fail
  refine (WA.get H (by simp [aw]) (by simp [aw]) 0 ⟨#[97]⟩ (by decide) (aw_s5 p q).1 (aw_s5 p q).2).mono ?_
  rintro x w11 ⟨rfl, H⟩
  unfold er
  go_wp2_with fail
  refine (WA.put H (by simp [aw]) (by simp [aw]) (aw_two aw_fit.2.2.1 aw_fit.2.2.2.1) (by decide) 1 ⟨#[98]⟩ ⟨#[]⟩ (aw_s6 p q)).mono ?_
  rintro x w12 ⟨rfl, H⟩
  unfold er
  go_wp2_with fail
  refine (WA.sync H (by simp [aw]) (by simp [aw]) 1 (aw_s7 p q)).mono ?_
  rintro x w13 ⟨rfl, H⟩
  unfold er
  go_wp2_with fail
  refine (WA.objs H (aw_two (P := fun s => s.seen.length ≤ 1000000) (aw_len aw2 (by simp)) (aw_len aw5 (by simp))) 1 (aw_s8 p q)).mono ?_
  rintro x w14 ⟨a, c, rfl, H⟩
  simp only [List.length_singleton]
  go_wp2_with fail
  refine (WA.sus H (by simp [aw]) (aw_s9 p q)).mono ?_
  rintro x w15 ⟨a2, c2, rfl, H⟩
  simp only [List.length_nil]
  go_wp2_with fail
  go_ret
  exact ⟨rfl, H.base⟩
end Go.Proofs.Ytgdiaflikfdnaaa
