/- WorldNames: the examples, the errors, nobody's world. Printed by gen_nam.py. -/
import Derived.Test.YtgdiaflikfdnaaaNil
namespace Go.Proofs.Ytgdiaflikfdnaaa
open Go.RowKit Go.Maps
variable {w0 w w' : World} {b : Nat} {W W' : Wd}
def nw (P : List Nat) : List Kp := P.map fun p => ⟨p, st0, false⟩
theorem nw_of : ∀ (l : List Kp), (∀ x ∈ l, x.st = st0 ∧ x.sus = false) → l = nw (l.map (·.blk))
  | [], _ => rfl
  | x :: r, h => by
    have h1 := h x (by simp)
    have h2 := nw_of r fun y hy => h y (List.mem_cons_of_mem _ hy)
    obtain ⟨p, s, u⟩ := x
    simp only at h1
    rw [h1.1, h1.2]
    show _ = (⟨p, st0, false⟩ : Kp) :: nw (r.map (·.blk))
    rw [← h2]
theorem twelve {P : List Nat} (h : P.length = 12) : ∃ p0 p1 p2 p3 p4 p5 p6 p7 p8 p9 p10 p11, P = [p0, p1, p2, p3, p4, p5, p6, p7, p8, p9, p10, p11] := by
  match P, h with
  | [p0, p1, p2, p3, p4, p5, p6, p7, p8, p9, p10, p11], _ => exact ⟨p0, p1, p2, p3, p4, p5, p6, p7, p8, p9, p10, p11, rfl⟩
def n0 (P : List Nat) : Wd := newW (nw P)
def n1 (P : List Nat) : Wd := (strikeW (n0 P) 5 3 0 0 0).2
def n2 (P : List Nat) : Wd := (strikeW (n1 P) 4 0 0 0 0).2
def n3 (P : List Nat) : Wd := (strikeW (n2 P) 1 2 0 0 0).2
def n4 (P : List Nat) : Wd := clearW (n3 P)
def okB (W : Wd) : Bool := W.l.all (fun x => fitB x.st)
theorem fits {W : Wd} (h : okB W = true) : ∀ x ∈ W.l, Fit 100 x.st := fun x hx => fit_of (List.all_eq_true.1 h x hx)
section
variable (p0 p1 p2 p3 p4 p5 p6 p7 p8 p9 p10 p11 : Nat)
theorem n_k0 : askS (n0 [p0, p1, p2, p3, p4, p5, p6, p7, p8, p9, p10, p11]) 12 (fun s => putS s ⟨#[97]⟩ ⟨#[]⟩) = (1, n0 [p0, p1, p2, p3, p4, p5, p6, p7, p8, p9, p10, p11]) := by kernel_rfl
theorem n_k1 : askS (n0 [p0, p1, p2, p3, p4, p5, p6, p7, p8, p9, p10, p11]) (-1) (fun s => putS s ⟨#[97]⟩ ⟨#[]⟩) = (1, n0 [p0, p1, p2, p3, p4, p5, p6, p7, p8, p9, p10, p11]) := by kernel_rfl
theorem n_k2 : cutW (n0 [p0, p1, p2, p3, p4, p5, p6, p7, p8, p9, p10, p11]) (-1) = (1, n0 [p0, p1, p2, p3, p4, p5, p6, p7, p8, p9, p10, p11]) := by kernel_rfl
theorem n_k3 : strikeW (n0 [p0, p1, p2, p3, p4, p5, p6, p7, p8, p9, p10, p11]) 1 12 0 0 0 = (1, n0 [p0, p1, p2, p3, p4, p5, p6, p7, p8, p9, p10, p11]) := by kernel_rfl
theorem n_k4 : strikeW (n0 [p0, p1, p2, p3, p4, p5, p6, p7, p8, p9, p10, p11]) 5 3 0 0 0 = (0, n1 [p0, p1, p2, p3, p4, p5, p6, p7, p8, p9, p10, p11]) := by kernel_rfl
theorem n_k5 : strikeW (n1 [p0, p1, p2, p3, p4, p5, p6, p7, p8, p9, p10, p11]) 4 0 0 0 0 = (0, n2 [p0, p1, p2, p3, p4, p5, p6, p7, p8, p9, p10, p11]) := by kernel_rfl
theorem n_k6 : strikeW (n2 [p0, p1, p2, p3, p4, p5, p6, p7, p8, p9, p10, p11]) 1 2 0 0 0 = (0, n3 [p0, p1, p2, p3, p4, p5, p6, p7, p8, p9, p10, p11]) := by kernel_rfl
theorem n_k7 : susL (n3 [p0, p1, p2, p3, p4, p5, p6, p7, p8, p9, p10, p11]).l (n3 [p0, p1, p2, p3, p4, p5, p6, p7, p8, p9, p10, p11]).l.length = [0, 2] := by kernel_rfl
theorem n_k8 : susL (n4 [p0, p1, p2, p3, p4, p5, p6, p7, p8, p9, p10, p11]).l (n4 [p0, p1, p2, p3, p4, p5, p6, p7, p8, p9, p10, p11]).l.length = [0] := by kernel_rfl
theorem n_k9 : (n0 [p0, p1, p2, p3, p4, p5, p6, p7, p8, p9, p10, p11]).calls = 0 ∧ (n0 [p0, p1, p2, p3, p4, p5, p6, p7, p8, p9, p10, p11]).left = 0 ∧ (n0 [p0, p1, p2, p3, p4, p5, p6, p7, p8, p9, p10, p11]).l.length = 12 ∧ (n3 [p0, p1, p2, p3, p4, p5, p6, p7, p8, p9, p10, p11]).l.length = 12 ∧ (n4 [p0, p1, p2, p3, p4, p5, p6, p7, p8, p9, p10, p11]).l.length = 12 ∧ (n4 [p0, p1, p2, p3, p4, p5, p6, p7, p8, p9, p10, p11]).calls = 0 := ⟨by kernel_rfl, by kernel_rfl, by kernel_rfl, by kernel_rfl, by kernel_rfl, by kernel_rfl⟩
theorem n_k10 : okB (n0 [p0, p1, p2, p3, p4, p5, p6, p7, p8, p9, p10, p11]) = true := by kernel_rfl
theorem n_k11 : okB (n1 [p0, p1, p2, p3, p4, p5, p6, p7, p8, p9, p10, p11]) = true := by kernel_rfl
theorem n_k12 : okB (n2 [p0, p1, p2, p3, p4, p5, p6, p7, p8, p9, p10, p11]) = true := by kernel_rfl
theorem n_k13 : upW (n4 [p0, p1, p2, p3, p4, p5, p6, p7, p8, p9, p10, p11]) 0 = false := by kernel_rfl
theorem n_k14 : upW (n4 [p0, p1, p2, p3, p4, p5, p6, p7, p8, p9, p10, p11]) 1 = true := by kernel_rfl
end
theorem WA.strike (h : WA w0 w b W) {N : Nat} (hF : ∀ x ∈ W.l, Fit N x.st) (hN : N ≤ 1000000) (k t n a c : Int) (hk0 : 0 ≤ k) (hk : k < 256) (hn : n < 9223372036854775808) (ha : a < 9223372036854775808) {e : Int} (he : strikeW W k t n a c = (e, W')) : Calls Try.prog 10 #[ptr b, fv k t n a c] w fun x w' => x = .returned (er e) ∧ WA w0 w' b W' := by
  obtain ⟨S, g, h1, h2, h3, k'⟩ := h.go
  exact (wstrike_any h1 hF hN k t n a c hk0 hk hn ha).mono fun _ _ ⟨e1, e2⟩ => by rw [he] at e1 e2; exact ⟨e1, k' e2⟩
theorem WA.up (h : WA w0 w b W) (i : Int) {u : Bool} (he : upW W i = u) : Calls Try.prog 18 #[ptr b, .int .i64 i] w fun x w' => x = .returned (.bool u) ∧ w' = w := by
  obtain ⟨S, g, h1, h2, h3⟩ := h
  exact (wup_any h1 i).mono fun _ _ ⟨e1, e2⟩ => ⟨by rw [e1, he], e2⟩
theorem WA.calls0 (h : WA w0 w b W) (hc : W.calls = 0) : Calls Try.prog 16 #[ptr b] w fun e w' => e = .returned (.int .i64 0) ∧ w' = w := by
  obtain ⟨S, g, h1, h2, h3⟩ := h
  exact (calls_any h1).mono fun _ _ ⟨e1, e2⟩ => ⟨by rw [e1, hc]; rfl, e2⟩
/-- a list of numbers beside the world -/
def WR (w0 w : World) (b : Nat) (W : Wd) (q : Nat) (L : List Nat) : Prop := ∃ S g, IsWd w S b g W ∧ (∀ i, S i → w0.heap.size ≤ i) ∧ Below w0.heap.size w0 w ∧ ¬ S q ∧ ∃ cur, Has w q cur 3 ∧ ∀ (j z : Nat), L[j]? = some z → cur[j]? = some (.int .i64 (z : Int))
theorem WA.sus2 (h : WA w0 w b W) (hn : W.l.length ≤ 1000) {L : List Nat} (he : susL W.l W.l.length = L) (hL : L ≠ []) : Calls Try.prog 11 #[ptr b] w fun x w' => ∃ q c, x = .returned (.slice (some ⟨q, 0, none⟩) L.length c) ∧ Below w.heap.size w w' ∧ WR w0 w' b W q L := by
  obtain ⟨S, g, h1, h2, h3⟩ := h
  refine (wsus_any h1 hn).mono fun _ w' ⟨v, e1, e2, e3⟩ => ?_
  rw [he] at e2
  have hrow := row_form e2
  rcases e2.2 with ⟨k1, k2⟩ | ⟨q, c, cur, k1, k2, k3, _⟩
  · exact absurd (List.eq_nil_of_length_eq_zero k2) hL
  · subst k1
    have k3' : Has w' q cur 3 := k3
    refine ⟨q, c, e1, e3, S, g, h1.below e3, h2, h3.trans (e3.mono h3.size), fun hS => ?_, cur, k3', fun j z hz => ?_⟩
    · have := h1.bound _ hS
      omega
    · rcases hrow with ⟨e, _⟩ | ⟨q', c', e, _, _, _, _, k6⟩
      · cases e
      · cases e
        rw [← k3'.cell j]
        exact k6 j _ (by unfold intCells; rw [List.getElem?_map, hz]; rfl)
theorem WR.wa {q : Nat} {L : List Nat} (h : WR w0 w b W q L) : WA w0 w b W := by
  obtain ⟨S, g, h1, h2, h3, _⟩ := h
  exact ⟨S, g, h1, h2, h3⟩
theorem WR.clear {q : Nat} {L : List Nat} (h : WR w0 w b W q L) (hn : W.l.length ≤ 1000) : Calls Try.prog 4 #[ptr b] w fun x w' => x = .returned (.tuple #[]) ∧ WR w0 w' b (clearW W) q L := by
  obtain ⟨S, g, h1, h2, h3, h4, cur, h5, h6⟩ := h
  refine (wclear_any h1 hn).mono fun _ w' ⟨e1, S', a1, a2, a3⟩ => ⟨e1, S', g, a1, fun i hi => ?_, h3.trans (a3.below h3.size h2), fun hq => ?_, cur, a3.has h5 h4, h6⟩
  · rcases a2 i hi with h | h
    · exact h2 i h
    · exact Nat.le_trans h3.size h
  · rcases a2 q hq with h | h
    · exact h4 h
    · have := h5.lt
      omega
/-- the world and the two lists that were told of it -/
def NB (w0 w : World) (b : Nat) (W : Wd) (q1 q2 : Nat) : Prop := WA w0 w b W ∧ q1 < w.heap.size ∧ q2 < w.heap.size ∧ w.cell? ⟨q1, 0, none⟩ = some (.int .i64 0) ∧ w.cell? ⟨q1, 1, none⟩ = some (.int .i64 2) ∧ w.cell? ⟨q2, 0, none⟩ = some (.int .i64 0)
theorem NB.next {q1 q2 : Nat} (h : NB w0 w b W q1 q2) (hb : Below w.heap.size w w') : NB w0 w' b W q1 q2 := by
  obtain ⟨h1, h2, h3, h4, h5, h6⟩ := h
  exact ⟨h1.next hb, Nat.lt_of_lt_of_le h2 hb.size, Nat.lt_of_lt_of_le h3 hb.size, by rw [hb.cell (p := ⟨q1, 0, none⟩) h2]; exact h4, by rw [hb.cell (p := ⟨q1, 1, none⟩) h2]; exact h5, by rw [hb.cell (p := ⟨q2, 0, none⟩) h3]; exact h6⟩
set_option maxHeartbeats 16000000 in
set_option maxRecDepth 20000 in
theorem names_walk (w : World) : Calls Try.prog 3 #[] w fun e w' => e = .returned (.bool true) ∧ Below w.heap.size w w' := by
  go_enter Try.func3, Try.ntmps3
  go_wp2_with fail
  refine (wclear_nil _).mono ?_
  rintro x w1 ⟨rfl, rfl⟩
  go_wp2_with fail
  refine wnew_any _ 0 _ (fun _ => ?_) (fun h => absurd h (by decide))
  go_wp2_with fail
  refine wnew_any _ 13 _ (fun _ => ?_) (fun h => absurd h (by decide))
  go_wp2_with fail
  refine (wget_nil _ _).mono ?_
  rintro x w2 ⟨rfl, hb2⟩
  have HB2 := hid hb2
  clear hb2
  go_wp2_with fail
  refine (wlist_nil _).mono ?_
  rintro x w3 ⟨rfl, rfl⟩
  go_wp2_with fail
  refine (WA.new _ 12 (by decide)).mono ?_
  rintro x w4 ⟨b, l, rfl, H, hl, hx⟩
  have hl2 := nw_of l hx
  obtain ⟨p0, p1, p2, p3, p4, p5, p6, p7, p8, p9, p10, p11, hP⟩ := twelve (P := l.map (·.blk)) (by simpa using hl)
  rw [hP] at hl2
  subst hl2
  clear hP hl hx
  replace H : WA _ w4 b (n0 [p0, p1, p2, p3, p4, p5, p6, p7, p8, p9, p10, p11]) := H
  unfold ptr er
  go_wp2_with fail
  refine (WA.put H (by rw [(n_k9 p0 p1 p2 p3 p4 p5 p6 p7 p8 p9 p10 p11).1]; decide) (by rw [(n_k9 p0 p1 p2 p3 p4 p5 p6 p7 p8 p9 p10 p11).2.1]; decide) (fits (n_k10 p0 p1 p2 p3 p4 p5 p6 p7 p8 p9 p10 p11)) (by decide) 12 ⟨#[97]⟩ ⟨#[]⟩ (n_k0 p0 p1 p2 p3 p4 p5 p6 p7 p8 p9 p10 p11)).mono ?_
  rintro x w5 ⟨rfl, H⟩
  unfold er
  go_wp2_with fail
  refine (WA.put H (by rw [(n_k9 p0 p1 p2 p3 p4 p5 p6 p7 p8 p9 p10 p11).1]; decide) (by rw [(n_k9 p0 p1 p2 p3 p4 p5 p6 p7 p8 p9 p10 p11).2.1]; decide) (fits (n_k10 p0 p1 p2 p3 p4 p5 p6 p7 p8 p9 p10 p11)) (by decide) (-1) ⟨#[97]⟩ ⟨#[]⟩ (n_k1 p0 p1 p2 p3 p4 p5 p6 p7 p8 p9 p10 p11)).mono ?_
  rintro x w6 ⟨rfl, H⟩
  unfold er
  go_wp2_with fail
  refine (WA.cut H (-1) (n_k2 p0 p1 p2 p3 p4 p5 p6 p7 p8 p9 p10 p11)).mono ?_
  rintro x w7 ⟨rfl, H⟩
  unfold er
  go_wp2_with fail
  refine (WA.strike H (fits (n_k10 p0 p1 p2 p3 p4 p5 p6 p7 p8 p9 p10 p11)) (by decide) 1 12 0 0 0 (by decide) (by decide) (by decide) (by decide) (n_k3 p0 p1 p2 p3 p4 p5 p6 p7 p8 p9 p10 p11)).mono ?_
  rintro x w8 ⟨rfl, H⟩
  unfold er
  go_wp2_with fail
  refine (WA.strike H (fits (n_k10 p0 p1 p2 p3 p4 p5 p6 p7 p8 p9 p10 p11)) (by decide) 5 3 0 0 0 (by decide) (by decide) (by decide) (by decide) (n_k4 p0 p1 p2 p3 p4 p5 p6 p7 p8 p9 p10 p11)).mono ?_
  rintro x w8 ⟨rfl, H⟩
  unfold er
  go_wp2_with fail
  refine (WA.strike H (fits (n_k11 p0 p1 p2 p3 p4 p5 p6 p7 p8 p9 p10 p11)) (by decide) 4 0 0 0 0 (by decide) (by decide) (by decide) (by decide) (n_k5 p0 p1 p2 p3 p4 p5 p6 p7 p8 p9 p10 p11)).mono ?_
  rintro x w8 ⟨rfl, H⟩
  unfold er
  go_wp2_with fail
  refine (WA.strike H (fits (n_k12 p0 p1 p2 p3 p4 p5 p6 p7 p8 p9 p10 p11)) (by decide) 1 2 0 0 0 (by decide) (by decide) (by decide) (by decide) (n_k6 p0 p1 p2 p3 p4 p5 p6 p7 p8 p9 p10 p11)).mono ?_
  rintro x w8 ⟨rfl, H⟩
  unfold er
  go_wp2_with fail
  refine (WA.sus2 H (by rw [(n_k9 p0 p1 p2 p3 p4 p5 p6 p7 p8 p9 p10 p11).2.2.2.1]; decide) (n_k7 p0 p1 p2 p3 p4 p5 p6 p7 p8 p9 p10 p11) (by simp)).mono ?_
  rintro x w9 ⟨q1, d1, rfl, _, HR⟩
  clear H
  simp only [List.length_cons, List.length_nil]
  go_wp2_with fail
  refine (WR.clear HR (by rw [(n_k9 p0 p1 p2 p3 p4 p5 p6 p7 p8 p9 p10 p11).2.2.2.1]; decide)).mono ?_
  rintro x w10 ⟨rfl, HR⟩
  replace HR : WR _ w10 b (n4 [p0, p1, p2, p3, p4, p5, p6, p7, p8, p9, p10, p11]) q1 [0, 2] := HR
  go_wp2_with fail
  refine (WA.sus2 HR.wa (by rw [(n_k9 p0 p1 p2 p3 p4 p5 p6 p7 p8 p9 p10 p11).2.2.2.2.1]; decide) (n_k8 p0 p1 p2 p3 p4 p5 p6 p7 p8 p9 p10 p11) (by simp)).mono ?_
  rintro x w11 ⟨q2, d2, rfl, hb11, HS⟩
  have HN : Hid (NB _ w11 b (n4 [p0, p1, p2, p3, p4, p5, p6, p7, p8, p9, p10, p11]) q1 q2) := hid (by
    obtain ⟨_, _, _, _, _, _, _, h5, h6⟩ := HR
    have hw := HS.wa
    obtain ⟨_, _, _, _, _, _, _, k5, k6⟩ := HS
    exact ⟨hw, Nat.lt_of_lt_of_le h5.lt hb11.size, k5.lt, by rw [hb11.cell (p := ⟨q1, 0, none⟩) h5.lt, h5.cell]; exact h6 0 0 rfl, by rw [hb11.cell (p := ⟨q1, 1, none⟩) h5.lt, h5.cell]; exact h6 1 2 rfl, by rw [k5.cell]; exact k6 0 0 rfl⟩)
  clear HR HS hb11
  simp only [List.length_cons, List.length_nil]
  go_wp2_with fail
  refine (wput_nil _).mono ?_
  rintro x wn ⟨rfl, hbn⟩
  have HN := hid (HN.out.next hbn)
  clear hbn
  go_wp2_with fail
  refine (wdel_nil _ _).mono ?_
  rintro x wn ⟨rfl, hbn⟩
  have HN := hid (HN.out.next hbn)
  clear hbn
  go_wp2_with fail
  refine (wsync_nil _).mono ?_
  rintro x wn ⟨rfl, hbn⟩
  have HN := hid (HN.out.next hbn)
  clear hbn
  go_wp2_with fail
  refine (wcut_nil _).mono ?_
  rintro x wn ⟨rfl, rfl⟩
  unfold er
  go_wp2_with fail
  refine (wcrash_nil _).mono ?_
  rintro x wn ⟨rfl, rfl⟩
  unfold er
  go_wp2_with fail
  refine (wstrike_nil _).mono ?_
  rintro x wn ⟨rfl, hbn⟩
  have HN := hid (HN.out.next hbn)
  clear hbn
  unfold er
  go_wp2_with fail
  refine (wn_nil _).mono ?_
  rintro x wn ⟨rfl, rfl⟩
  go_wp2_with fail
  refine (wcalls_nil _).mono ?_
  rintro x wn ⟨rfl, rfl⟩
  go_wp2_with fail
  refine (wdark_nil _).mono ?_
  rintro x wn ⟨rfl, rfl⟩
  go_wp2_with fail
  refine (wsus_nil _).mono ?_
  rintro x wn ⟨rfl, rfl⟩
  go_wp2_with fail
  refine (wup_nil _).mono ?_
  rintro x wn ⟨rfl, rfl⟩
  go_wp2_with fail
  refine (wobjs_nil _).mono ?_
  rintro x wn ⟨rfl, rfl⟩
  go_wp2_with fail
  refine (wcopy_nil _).mono ?_
  rintro x wn ⟨rfl, rfl⟩
  go_wp2_with fail
  refine (WA.calls0 HN.out.1 (n_k9 p0 p1 p2 p3 p4 p5 p6 p7 p8 p9 p10 p11).2.2.2.2.2).mono ?_
  rintro x wn ⟨rfl, rfl⟩
  have f1 := HN.out.2.2.2.1
  have f2 := HN.out.2.2.2.2.1
  have f3 := HN.out.2.2.2.2.2
  go_wp2_with fail
  refine (WA.up HN.out.1 0 (n_k13 p0 p1 p2 p3 p4 p5 p6 p7 p8 p9 p10 p11)).mono ?_
  rintro x wn ⟨rfl, rfl⟩
  clear f1 f2 f3
  go_wp2_with fail
  refine (WA.up HN.out.1 1 (n_k14 p0 p1 p2 p3 p4 p5 p6 p7 p8 p9 p10 p11)).mono ?_
  rintro x wn ⟨rfl, rfl⟩
  go_wp2_with fail
  refine (awake_true _).mono ?_
  rintro x wn ⟨rfl, hbn⟩
  have HF := hid (HB2.out.trans ((HN.out.1.next hbn).base.mono HB2.out.size))
  clear hbn
  go_wp2_with fail
  go_ret
  exact ⟨rfl, HF.out⟩
end Go.Proofs.Ytgdiaflikfdnaaa
