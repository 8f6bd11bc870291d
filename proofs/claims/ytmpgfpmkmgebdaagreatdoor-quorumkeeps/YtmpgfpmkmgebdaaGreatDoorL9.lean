/- QuorumKeeps: the first example, reckoned. -/
import Derived.Test.YtmpgfpmkmgebdaaGreatDoorQ9
import Derived.Test.YtmpgfpmkmgebdaaGreatDoorL5
import Derived.Test.YtmpgfpmkmgebdaaGreatDoorP23
namespace Go.Proofs.YtmpgfpmkmgebdaaGreatDoor
open Go.RowKit Go.Maps
open W
def d1 : ByteArray := ⟨#[109, 97, 110, 49, 0, 0, 0, 1, 0, 0, 0, 1, 2, 3, 0, 0, 0, 1, 97, 215, 195, 102, 35, 156, 135, 235, 19, 17, 230, 168, 33, 190, 226, 92, 87, 245, 241, 183, 22, 205, 61, 234, 179, 204, 102, 210, 242, 165, 122, 17, 246]⟩
def d2 : ByteArray := ⟨#[109, 97, 110, 49, 0, 0, 0, 1, 0, 0, 0, 2, 2, 3, 0, 0, 0, 1, 120, 249, 204, 253, 57, 16, 41, 209, 239, 145, 53, 12, 70, 62, 122, 7, 63, 227, 249, 198, 51, 238, 59, 212, 141, 237, 6, 130, 1, 216, 156, 200, 44]⟩
def d3 : ByteArray := ⟨#[109, 97, 110, 49, 0, 0, 0, 2, 0, 0, 0, 2, 2, 3, 0, 0, 0, 1, 120, 246, 55, 242, 206, 73, 176, 217, 252, 77, 24, 48, 65, 183, 9, 12, 203, 22, 206, 179, 148, 220, 220, 0, 232, 152, 129, 160, 187, 176, 222, 146, 32]⟩
def s1 : St := ⟨[(m0, d1)], [], false, none, none, true⟩
def s2 : St := ⟨[(m0, d1), (m1, d2)], [], false, none, none, true⟩
def s3 : St := ⟨[(m0, d3), (m1, d2)], [], false, none, none, true⟩
def s4 : St := ⟨[(m0, d2), (m1, d3)], [], false, none, none, true⟩
abbrev B1 : Bst := ⟨1, 1, 2, 3, ⟨#[97]⟩⟩
abbrev B2 : Bst := ⟨1, 2, 2, 3, ⟨#[120]⟩⟩
abbrev B3 : Bst := ⟨2, 2, 2, 3, ⟨#[120]⟩⟩
def V0 (a b c : Nat) : Wd := newW [⟨a, st0, false⟩, ⟨b, st0, false⟩, ⟨c, st0, false⟩]
def V1 (a b c : Nat) : Wd := ⟨[⟨a, s1, false⟩, ⟨b, s1, false⟩, ⟨c, s1, false⟩], 12, false, false, 0⟩
def V2 (a b c : Nat) : Wd := ⟨[⟨a, s2, false⟩, ⟨b, s2, false⟩, ⟨c, s2, false⟩], 24, false, false, 0⟩
def V3 (a b c : Nat) : Wd := ⟨[⟨a, s2, false⟩, ⟨b, st0, true⟩, ⟨c, s2, false⟩], 24, false, false, 0⟩
def V4 (a b c : Nat) : Wd := ⟨[⟨a, s3, false⟩, ⟨b, s4, true⟩, ⟨c, s3, false⟩], 40, false, false, 0⟩
set_option maxRecDepth 100000 in
theorem aw1 (a b c : Nat) : initW (V0 a b c) 2 3 ⟨#[97]⟩ = (0, B1, V1 a b c) := by kernel_rfl
set_option maxRecDepth 100000 in
theorem aw2 (a b c : Nat) : writeW (V1 a b c) B1 ⟨#[120]⟩ = (0, B2, V2 a b c) := by kernel_rfl
set_option maxRecDepth 100000 in
theorem aw3 (a b c : Nat) : strikeW (V2 a b c) 1 1 0 0 0 = (0, V3 a b c) := by kernel_rfl
theorem aw4 (a b c : Nat) : crashW (V3 a b c) [] = V3 a b c := by kernel_rfl
def s5 : St := ⟨[(m0, d2)], [], false, none, none, true⟩
def V5 (a b c : Nat) : Wd := ⟨[⟨a, s2, false⟩, ⟨b, st0, true⟩, ⟨c, s2, false⟩], 30, false, false, 0⟩
def V6 (a b c : Nat) : Wd := ⟨[⟨a, s2, false⟩, ⟨b, s5, true⟩, ⟨c, s2, false⟩], 34, false, false, 0⟩
def h5 : List Hd := [⟨true, ⟨true, B1⟩, ⟨true, B2⟩⟩, ⟨true, noR, noR⟩, ⟨true, ⟨true, B1⟩, ⟨true, B2⟩⟩]
def h6 : List Hd := [⟨true, ⟨true, B1⟩, ⟨true, B2⟩⟩, ⟨true, ⟨true, B2⟩, noR⟩, ⟨true, ⟨true, B1⟩, ⟨true, B2⟩⟩]
def V7 (a b c : Nat) : Wd := ⟨[⟨a, s3, false⟩, ⟨b, s4, true⟩, ⟨c, s3, false⟩], 46, false, false, 0⟩
def h7 : List Hd := [⟨true, ⟨true, B3⟩, ⟨true, B2⟩⟩, ⟨true, ⟨true, B2⟩, ⟨true, B3⟩⟩, ⟨true, ⟨true, B3⟩, ⟨true, B2⟩⟩]
set_option maxRecDepth 100000 in
theorem ld1 : lookd 3 d1 = ⟨true, B1⟩ := by kernel_rfl
set_option maxRecDepth 100000 in
theorem ld2 : lookd 3 d2 = ⟨true, B2⟩ := by kernel_rfl
set_option maxRecDepth 100000 in
theorem ld3 : lookd 3 d3 = ⟨true, B3⟩ := by kernel_rfl
theorem hd2 : hdOf 3 s2 = ⟨true, ⟨true, B1⟩, ⟨true, B2⟩⟩ := by rw [← ld1, ← ld2]; rfl
theorem hd0 : hdOf 3 st0 = ⟨true, noR, noR⟩ := rfl
theorem hd3 : hdOf 3 s3 = ⟨true, ⟨true, B3⟩, ⟨true, B2⟩⟩ := by rw [← ld2, ← ld3]; rfl
theorem hd4 : hdOf 3 s4 = ⟨true, ⟨true, B2⟩, ⟨true, B3⟩⟩ := by rw [← ld2, ← ld3]; rfl
theorem gath_lit {V V' : Wd} {h : List Hd} (h1 : (gathW V).1 = 0) (h2 : (gathW V).2.1 = V') (hn : (V.l.length : Int) = 3) (hd : V.dark = false) (h3 : (V.l.map fun x => hdOf 3 x.st) = h) : gathW V = (0, V', h) := by
  rcases gathW_is hn hd with ⟨g1, _, _⟩ | ⟨g1, g2, g3, g4⟩
  · rw [h1] at g1; cases g1
  · rw [h3] at g4
    rw [← h1, ← h2, ← g4]
set_option maxRecDepth 100000 in
theorem aw5a (a b c : Nat) : gathW (V3 a b c) = (0, V5 a b c, h5) := gath_lit (by kernel_rfl) (by kernel_rfl) rfl rfl (by
  show [hdOf 3 s2, hdOf 3 st0, hdOf 3 s2] = h5
  rw [hd2, hd0]
  rfl)
set_option maxRecDepth 100000 in
theorem aw5b : nwst h5 = ⟨true, B2⟩ := by kernel_rfl
set_option maxRecDepth 100000 in
theorem aw5c (a b c : Nat) : eachE (setD B2) h5 (V5 a b c) = ⟨h6, 3, V6 a b c, false⟩ := by kernel_rfl
set_option maxRecDepth 100000 in
theorem aw5d (a b c : Nat) : sprW h6 B3 1 2 (V6 a b c) = (0, B3, V4 a b c) := by kernel_rfl
theorem open_lit {V V1 : Wd} {h : List Hd} {B : Bst} {s : ES} {R : Int × Bst × Wd} (hf : findW V = (0, V1, h)) (hn : nwst h = ⟨true, B⟩) (hk : ¬ ((idx 0 h).length : Int) < B.k) (he : B.e ≠ 2147483647) (hs : eachE (setD B) h V1 = s) (h0 : enoE s B.k = 0) (hR : sprW s.l (nextE B) B.e B.g s.V = R) : openW V = R := by
  unfold openW
  simp only [hf, hn]
  rw [if_neg (by decide), if_neg hk, if_neg he, hs, if_neg (by rw [h0]; decide)]
  exact hR
theorem aw5 (a b c : Nat) : openW (V3 a b c) = (0, B3, V4 a b c) := by
  have hf : findW (V3 a b c) = (0, V5 a b c, h5) := by
    unfold findW
    rw [aw5a]
    rfl
  exact open_lit hf aw5b (by decide +kernel) (by decide +kernel) (aw5c a b c) (by kernel_rfl) (aw5d a b c)
set_option maxRecDepth 100000 in
theorem aw6a (a b c : Nat) : gathW (V4 a b c) = (0, V7 a b c, h7) := gath_lit (by kernel_rfl) (by kernel_rfl) rfl rfl (by
  show [hdOf 3 s3, hdOf 3 s4, hdOf 3 s3] = h7
  rw [hd3, hd4]
  rfl)
theorem aw6 (a b c : Nat) : (badW (V4 a b c) ⟨2, 2, 2, 3, ⟨#[120]⟩⟩).1 = 0 ∧ (badW (V4 a b c) ⟨2, 2, 2, 3, ⟨#[120]⟩⟩).2.1 = 0 := by
  unfold badW
  rw [aw6a]
  exact ⟨by kernel_rfl, rfl⟩
end Go.Proofs.YtmpgfpmkmgebdaaGreatDoor
/- QuorumKeeps: the first example. -/
namespace Go.Proofs.YtmpgfpmkmgebdaaGreatDoor
open Go.RowKit Go.Maps
open W
set_option linter.unusedVariables false
variable {w0 w w' : World} {b : Nat} {V V' : Wd} {T : Nat → Prop}
theorem sm_st0 : Sm st0 := ⟨⟨W.rising_nil, fun p hp => (by cases hp), fun p hp => (by cases hp)⟩, fun q hq => (by cases hq), fun k hk => (by cases hk), fun k hk => (by cases hk), fun e => absurd rfl e⟩
theorem new_ok {l : List Kp} {n : Nat} (hl : l.length = n) (h : ∀ x ∈ l, x.st = st0 ∧ x.sus = false) : Ok 2 n (newW l) ∧ All Sm (newW l) :=
  ⟨⟨hl, fun x hx => by rw [(h x hx).1]; exact sm_st0.fit (by decide) (by decide), Nat.zero_le _, by show (0 : Nat) < _; decide⟩, fun x hx => by rw [(h x hx).1]; exact sm_st0⟩
theorem three_of {l : List Kp} (hl : l.length = 3) (h : ∀ x ∈ l, x.st = st0 ∧ x.sus = false) : ∃ a b c, newW l = V0 a b c := by
  match l, hl with
  | [x, y, z], _ =>
    obtain ⟨x1, x2, x3⟩ := x
    obtain ⟨y1, y2, y3⟩ := y
    obtain ⟨z1, z2, z3⟩ := z
    obtain ⟨rfl, rfl⟩ := h _ List.mem_cons_self
    obtain ⟨rfl, rfl⟩ := h _ (List.mem_cons_of_mem _ List.mem_cons_self)
    obtain ⟨rfl, rfl⟩ := h _ (List.mem_cons_of_mem _ (List.mem_cons_of_mem _ List.mem_cons_self))
    exact ⟨x1, y1, z1, rfl⟩
theorem five_put {W : World} {q : Nat} {a c : Bst} (h : Has W q (bV a).toArray 34) : Has (w5 W q c) q (bV c).toArray 34 ∧ Only (fun j => j = q) W (w5 W q c) := put5 h
theorem cells34 {W : World} {q : Nat} {a : Bst} (h : Has W q (bV a).toArray 34) : (W.cell? ⟨q, 0, none⟩ = some (.int .i64 a.e) ∧ W.cell? ⟨q, 1, none⟩ = some (.int .i64 a.g) ∧ W.cell? ⟨q, 2, none⟩ = some (.int .i64 a.k) ∧ W.cell? ⟨q, 3, none⟩ = some (.int .i64 a.n) ∧ W.cell? ⟨q, 4, none⟩ = some (.string a.p)) ∧ W.frozen? ⟨q, 0, none⟩ = false ∧ W.frozen? ⟨q, 1, none⟩ = false ∧ W.frozen? ⟨q, 2, none⟩ = false ∧ W.frozen? ⟨q, 3, none⟩ = false ∧ W.frozen? ⟨q, 4, none⟩ = false :=
  ⟨⟨h.cell 0, h.cell 1, h.cell 2, h.cell 3, h.cell 4⟩, h.frozen 0, h.frozen 1, h.frozen 2, h.frozen 3, h.frozen 4⟩
/-- what the first example comes to -/
theorem aw_all (a b c : Nat) : ∃ V1 V2 V3 V4, initW (V0 a b c) 2 3 ⟨#[97]⟩ = (0, ⟨1, 1, 2, 3, ⟨#[97]⟩⟩, V1) ∧ writeW V1 ⟨1, 1, 2, 3, ⟨#[97]⟩⟩ ⟨#[120]⟩ = (0, ⟨1, 2, 2, 3, ⟨#[120]⟩⟩, V2) ∧ strikeW V2 1 1 0 0 0 = (0, V3) ∧ crashW V3 [] = V3 ∧ openW V3 = (0, ⟨2, 2, 2, 3, ⟨#[120]⟩⟩, V4) ∧ (badW V4 ⟨2, 2, 2, 3, ⟨#[120]⟩⟩).1 = 0 ∧ (badW V4 ⟨2, 2, 2, 3, ⟨#[120]⟩⟩).2.1 = 0 ∧ (V3.l.length = 3 ∧ V3.calls = 24 ∧ V3.left = 0) ∧ ∀ y ∈ V3.l, y.st.writes = [] ∧ (y.st = st0 ∨ ∃ z ∈ V2.l, y.st = z.st) := by
  refine ⟨V1 a b c, V2 a b c, V3 a b c, V4 a b c, ?_, ?_, ?_, ?_, ?_, ?_, ?_, ?_, fun y hy => ?_⟩
  · exact aw1 a b c
  · exact aw2 a b c
  · exact aw3 a b c
  · exact aw4 a b c
  · exact aw5 a b c
  · exact (aw6 a b c).1
  · exact (aw6 a b c).2
  · exact ⟨rfl, rfl, rfl⟩
  unfold V3 at hy
  simp only [List.mem_cons, List.not_mem_nil, or_false] at hy
  rcases hy with rfl | rfl | rfl
  · exact ⟨rfl, .inr ⟨⟨a, s2, false⟩, List.mem_cons_self, rfl⟩⟩
  · exact ⟨rfl, .inl rfl⟩
  · exact ⟨rfl, .inr ⟨⟨a, s2, false⟩, List.mem_cons_self, rfl⟩⟩
theorem bV_lit {e g k n : Int} {p : ByteArray} : (bV ⟨e, g, k, n, p⟩).toArray = #[.int .i64 e, .int .i64 g, .int .i64 k, .int .i64 n, .string p] := rfl
set_option maxHeartbeats 16000000 in
set_option maxRecDepth 20000 in
theorem awake_true (w : World) (hl : F.Lay w) : Calls Tryz.prog 5 #[] w fun e w' => e = .returned (.bool true) ∧ Below w.heap.size w w' := by
  have HL := hid hl
  clear hl
  go_enter Tryz.func5, Tryz.ntmps5
  go_wp2_with fail
  refine wnew_any _ 3 _ (fun h => absurd ⟨by decide, by decide⟩ h) ?_
  intro _ b g S l w1 h1 h2 h3 h4 h5
  obtain ⟨hok, _⟩ := new_ok h2 h3
  obtain ⟨x0, x1, x2, e0⟩ := three_of h2 h3
  rw [e0] at h1 hok
  obtain ⟨V1, V2, V3, V4, e1, e2, e3, e4, e5, e6, e7, ⟨e8, e9, e10⟩, e11⟩ := aw_all x0 x1 x2
  generalize V0 x0 x1 x2 = V0 at *
  have hok : Ok 2 3 V0 := hok
  have hw1 : WT w w1 b V0 (fun _ => False) := ⟨S, g, h1, h4, h5, fun i hi => hi.elim⟩
  have HIN := init_any hw1 HL.out hok (by decide) (by decide) 2 3 ⟨#[97]⟩ (by decide)
  rw [e1] at HIN
  simp only [bV_lit] at HIN
  unfold ptr er at HIN
  have HE2 := hid e2
  have HE3 := hid e3
  have HE4 := hid e4
  have HE5 := hid e5
  have HE6 := hid e6
  have HE7 := hid e7
  have HE8 := hid (And.intro e8 (And.intro e9 e10))
  have HE11 := hid e11
  clear h1 h2 h3 h4 h5 hok hw1 e0 e1 e2 e3 e4 e5 e6 e7 e8 e9 e10 e11
  go_wp2_with fail
  refine HIN.mono ?_
  clear HIN
  rintro _ w2 ⟨rfl, a1, a2, a3⟩
  have a3 : Ok 20 3 V1 := a3
  obtain ⟨w3, hw3⟩ : ∃ w3, w3 = w2.alloc (.cells #[.int .i64 1, .int .i64 1, .int .i64 2, .int .i64 3, .string ⟨#[97]⟩] 34) := ⟨_, rfl⟩
  have hb3 : Below w2.heap.size w2 w3 := by rw [hw3]; exact boxed _ _
  have hx3 : Has w3 w2.heap.size (bV ⟨1, 1, 2, 3, ⟨#[97]⟩⟩).toArray 34 := by rw [hw3]; exact Has.new _ _ _ _ rfl
  have hw3' := a1.plus hb3 (q := w2.heap.size) ⟨Nat.le_refl _, hx3.lt⟩
  obtain ⟨x, hx⟩ : ∃ x, x = w2.heap.size := ⟨_, rfl⟩
  have HZ : Hid (w.heap.size ≤ x) := hid (by rw [hx]; exact a1.base.size)
  rw [← hx] at hx3 hw3'
  have HWR := write_any hw3' HL.out a3 (by decide) (by decide) ⟨1, 1, 2, 3, ⟨#[97]⟩⟩ ⟨#[120]⟩ (by decide)
  rw [HE2.out] at HWR
  have HX3 := hid hx3
  obtain ⟨⟨c0, c1, c2, c3, c4⟩, _⟩ := cells34 hx3
  simp only [bV_lit] at HWR c0 c1 c2 c3 c4
  unfold ptr er at HWR
  rw [hw3, hx] at c0 c1 c2 c3 c4
  clear a1 a2 a3 hb3 hx3 hw3' HE2
  go_wp2_with fail
  rw [← hw3]
  refine HWR.mono ?_
  clear HWR c0 c1 c2 c3 c4
  rintro _ w4 ⟨rfl, a1, a2, a3⟩
  have a3 : Ok 38 3 V2 := a3
  have hx4 := a2.has (.inr rfl) HX3.out
  obtain ⟨p1, p2⟩ := five_put (c := ⟨1, 2, 2, 3, ⟨#[120]⟩⟩) hx4
  obtain ⟨⟨c0, c1, c2, c3, c4⟩, f0, f1, f2, f3, f4⟩ := cells34 hx4
  have HW5 := hid ((a1.list (g := x) (.inr rfl) HZ.out p2))
  have HST := HW5.out.strike a3.fit (by decide) 1 1 0 0 0 (by decide) (by decide) (by decide) (by decide)
  rw [HE3.out] at HST
  have HF2 := hid a3.fit
  rw [hx] at c0 c1 c2 c3 c4 f0 f1 f2 f3 f4
  unfold ptr fv W.er w5 at HST
  simp only at HST c0 c1 c2 c3 c4
  rw [hx] at HST
  clear a1 a2 a3 hx4 p1 p2 hw3 HE3
  go_wp2_with fail
  refine HST.mono ?_
  clear HST c0 c1 c2 c3 c4 f0 f1 f2 f3 f4
  rintro _ w6 ⟨rfl, a1, a2⟩
  have hF3 : ∀ y ∈ V3.l, Fit 38 y.st ∧ (y.st.writes ≠ [] → y.st.live = true) := fun y hy => by
    obtain ⟨t1, t2⟩ := HE11.out y hy
    refine ⟨?_, fun e => absurd t1 e⟩
    rcases t2 with t2 | ⟨z, hz, t2⟩
    · rw [t2]; exact sm_st0.fit (by decide) (by decide)
    · rw [t2]; exact HF2.out z hz
  obtain ⟨g1, g2, g3⟩ := HE8.out
  have HOK3 : Hid (Ok 38 3 V3) := hid ⟨g1, fun y hy => (hF3 y hy).1, by rw [g2]; decide, by rw [g3]; decide⟩
  have HCR := a1.crash (by rw [g1]; decide) hF3 (by decide) (.slice none 0 0) [] ⟨.inl ⟨_, _, rfl, rfl⟩, fun x hx => by cases hx⟩ (by decide)
  rw [HE4.out] at HCR
  unfold ptr W.er at HCR
  clear a1 a2 hF3 HF2 HW5 g1 g2 g3 HE4 HE8 HE11
  go_wp2_with fail
  refine HCR.mono ?_
  clear HCR
  rintro _ w7 ⟨rfl, a1, a2⟩
  have HOP := open_any a1 HL.out HOK3.out (by decide) (by decide)
  rw [HE5.out] at HOP
  simp only [bV_lit] at HOP
  unfold ptr er at HOP
  clear a1 a2 HX3 HOK3 HE5
  go_wp2_with fail
  refine HOP.mono ?_
  clear HOP
  rintro _ w8 ⟨rfl, a1, a2, a3⟩
  have a3 : Ok 56 3 V4 := a3
  obtain ⟨w9, hw9⟩ : ∃ w9, w9 = w8.alloc (.cells #[.int .i64 2, .int .i64 2, .int .i64 2, .int .i64 3, .string ⟨#[120]⟩] 34) := ⟨_, rfl⟩
  have hb9 : Below w8.heap.size w8 w9 := by rw [hw9]; exact boxed _ _
  have hx9 : Has w9 w8.heap.size (bV ⟨2, 2, 2, 3, ⟨#[120]⟩⟩).toArray 34 := by rw [hw9]; exact Has.new _ _ _ _ rfl
  have hw9' := a1.plus hb9 (q := w8.heap.size) ⟨Nat.le_refl _, hx9.lt⟩
  obtain ⟨y, hy⟩ : ∃ y, y = w8.heap.size := ⟨_, rfl⟩
  rw [← hy] at hx9 hw9'
  have HBD := bad_any hw9' HL.out a3 (by decide) (by decide) ⟨2, 2, 2, 3, ⟨#[120]⟩⟩
  rw [HE6.out, HE7.out] at HBD
  have HX9 := hid hx9
  obtain ⟨⟨c0, c1, c2, c3, c4⟩, _⟩ := cells34 hx9
  simp only [bV_lit] at HBD c0 c1 c2 c3 c4
  unfold ptr er at HBD
  rw [hw9, hy] at c0 c1 c2 c3 c4
  clear a1 a2 a3 hb9 hx9 hw9' HE6 HE7
  go_wp2_with fail
  rw [← hw9]
  refine HBD.mono ?_
  clear HBD c0 c1 c2 c3 c4
  rintro _ w10 ⟨rfl, a1, a2, a3⟩
  obtain ⟨⟨c0, c1, c2, c3, c4⟩, _⟩ := cells34 (a2.has (.inr rfl) HX9.out)
  simp only at c0 c1 c2 c3 c4
  rw [hy] at c0 c1 c2 c3 c4
  have HB := hid a1.base
  clear a1 a2 a3 HX9 hw9
  go_wp2_with fail
  go_ret
  exact ⟨rfl, HB.out⟩
end Go.Proofs.YtmpgfpmkmgebdaaGreatDoor
/- QuorumKeeps: deeds, as they are read; whether they are too many. -/
namespace Go.Proofs.YtmpgfpmkmgebdaaGreatDoor
open Go.RowKit Go.Maps
open W
set_option linter.unusedVariables false
variable {w0 w w' : World} {b : Nat} {V V' : Wd} {T : Nat → Prop}
/-- a deed -/
structure Dd where
  k : Int
  n : Int
  p : ByteArray
  lv : Value
  sv : List Sv
  fk : Int
  ft : Int
  fn : Int
  fa : Int
  fc : Int
def dcells (x : Dd) : List Value := [.int .u8 x.k, .int .i64 x.n, .string x.p, x.lv, .int .u8 x.fk, .int .i64 x.ft, .int .i64 x.fn, .int .i64 x.fa, .int .i64 x.fc]
structure DdOk (w : World) (x : Dd) : Prop where
  n : x.n < 9223372036854775808
  p : x.p.size < 281474976710656
  lv : RdS w x.lv x.sv
  sl : x.sv.length ≤ 9223372036854775807
  fk0 : 0 ≤ x.fk
  fk1 : x.fk < 256
  fn : x.fn < 9223372036854775808
  fa : x.fa < 9223372036854775808
def Deeds (W : World) (v : Value) (l : List Dd) : Prop := ((∃ A c, v = .slice A 0 c ∧ l = []) ∨ ∃ g o cap, v = .slice (some ⟨g, o, none⟩) l.length cap ∧ l.length ≤ 9223372036854775807 ∧ g < W.heap.size ∧ ∀ (j : Nat) (x : Dd), l[j]? = some x → ∀ (i : Nat) (u : Value), (dcells x)[i]? = some u → W.cell? ⟨g, o + j * 9 + i, none⟩ = some u) ∧ ∀ x ∈ l, DdOk W x
theorem Deeds.form {v : Value} {l : List Dd} (h : Deeds w v l) : ∃ a c, v = .slice a l.length c ∧ l.length ≤ 9223372036854775807 := by
  rcases h.1 with ⟨A, c, rfl, rfl⟩ | ⟨g, o, cap, rfl, h1, _, _⟩
  · exact ⟨_, _, rfl, by decide⟩
  · exact ⟨_, _, rfl, h1⟩
theorem Deeds.at {a : Option Addr} {n c : Nat} {l : List Dd} (h : Deeds w (.slice a n c) l) (hb : Below w.heap.size w w') {k : Nat} {x : Dd} (hx : l[k]? = some x) : ∃ g o, a = some ⟨g, o, none⟩ ∧ DdOk w x ∧ ∀ (i : Nat) (u : Value), (dcells x)[i]? = some u → w'.cell? ⟨g, o + k * 9 + i, none⟩ = some u := by
  rcases h.1 with ⟨A, c, e, e'⟩ | ⟨g, o, cap, e, _, hg, hc⟩
  · rw [e'] at hx; simp at hx
  · cases e
    exact ⟨g, o, rfl, h.2 x (List.mem_of_getElem? hx), fun i u hu => by rw [hb.cell (p := ⟨g, o + k * 9 + i, none⟩) hg]; exact hc k x hx i u hu⟩
theorem RdS.form' {v : Value} {l : List Sv} (h : RdS w v l) : ∃ a c, v = .slice a l.length c := by
  rcases h.1 with ⟨A, c, rfl, rfl⟩ | ⟨g, o, cap, _, rfl, _, _⟩
  · exact ⟨_, _, rfl⟩
  · exact ⟨_, _, rfl⟩
set_option maxHeartbeats 8000000 in
set_option maxRecDepth 20000 in
theorem long_any {v : Value} {l : List Dd} (h : Deeds w v l) (Q : Ending → World → Prop) (hq1 : Q (.returned (.bool true)) w) (hq2 : l.length ≤ 40 → (∀ x ∈ l, x.p.size ≤ 2000) → Q (.returned (.bool false)) w) : Calls Tryz.prog 4 #[v] w Q := by
  obtain ⟨a, c, rfl, hl63⟩ := h.form
  have HD := hid h
  have HQ1 := hid hq1
  have HQ2 := hid hq2
  obtain ⟨N, hN⟩ : ∃ N, N = l.length := ⟨_, rfl⟩
  have HN := hid hN
  rw [← hN] at HD hl63 ⊢
  clear h hq1 hq2 hN
  go_enter Tryz.func4, Tryz.ntmps4
  by_cases n40 : 40 < N
  · have q1 : (40 : Int) < (N : Int) := by omega
    clear n40
    go_wp2_with fail
    exact HQ1.out
  have q1 : ¬ (40 : Int) < (N : Int) := by omega
  have hN40 : N ≤ 40 := by omega
  clear n40
  go_wp2_with fail
  go_loopg [3, 4] N (fun gk s3 s4 wx => ∃ k : Nat, k + gk = N ∧ s3 = .int .i64 (k : Int) ∧ wx = w ∧ Hid (∀ x ∈ l.take k, x.p.size ≤ 2000))
  case atStart => exact ⟨0, by omega, rfl, rfl, hid (fun x hx => by simp at hx)⟩
  case round =>
    obtain ⟨k, hk, rfl, rfl, HP⟩ := hrel
    cases gk with
    | zero =>
      have q2 : ¬ (k : Int) < (N : Int) := by omega
      have HE : Hid (∀ x ∈ l, x.p.size ≤ 2000) := hid (by
        have := HP.out
        rw [List.take_of_length_le (by have := HN.out; omega)] at this
        exact this)
      have HF := hid (HQ2.out (by have := HN.out; omega) HE.out)
      clear HP
      go_wp2_with fail
      exact HF.out
    | succ g1 =>
      have q2 : (k : Int) < (N : Int) := by omega
      have wk : IntKind.i64.wrap ((k : Int) + 1) = ((k + 1 : Nat) : Int) := wrapN (b := 1) (by omega)
      obtain ⟨x, hx⟩ : ∃ x, l[k]? = some x := ⟨_, List.getElem?_eq_getElem (by have := HN.out; omega)⟩
      obtain ⟨g, o, rfl, hok, hc⟩ := HD.out.at (Below.refl _ _) hx
      have d2 : wr.cell? ⟨g, o + k * 9 + 2, none⟩ = some (.string x.p) := hc 2 _ rfl
      have d3 : wr.cell? ⟨g, o + k * 9 + 3, none⟩ = some x.lv := hc 3 _ rfl
      obtain ⟨A, cc, hlv⟩ := RdS.form' hok.lv
      have HSV := hid hok.lv
      have HSL := hid hok.sl
      rw [hlv] at d3
      have HLV := hid hlv
      have HPX : Hid (x.p.size ≤ 2000 → ∀ y ∈ l.take (k + 1), y.p.size ≤ 2000) := hid fun hx' y hy => by
        rw [List.take_add_one, hx] at hy
        rcases List.mem_append.1 hy with hy | hy
        · exact HP.out y hy
        · simp at hy
          rw [hy]
          exact hx'
      have hpb := hok.p
      obtain ⟨L, hL⟩ : ∃ L, L = x.sv.length := ⟨_, rfl⟩
      have HLL := hid hL
      rw [← hL] at d3
      clear hx hc hok hlv hL HP
      by_cases n2 : 2000 < x.p.size
      · have r1 : (2000 : Int) < (x.p.size : Int) := by omega
        clear n2 hpb
        go_wp2_with fail
        exact HQ1.out
      have r1 : ¬ (2000 : Int) < (x.p.size : Int) := by omega
      have HPN := hid (HPX.out (by omega))
      by_cases n3 : 30 < L
      · have r2 : (30 : Int) < (L : Int) := by omega
        clear n2 n3 hpb
        go_wp2_with fail
        exact HQ1.out
      have r2 : ¬ (30 : Int) < (L : Int) := by omega
      have hL30 : L ≤ 30 := by omega
      clear n2 n3 hpb
      obtain ⟨wx, hwx⟩ : ∃ wx, wx = wr := ⟨_, rfl⟩
      subst hwx
      go_wp2_with fail
      go_loopg [4] L (fun gj s4 wy => ∃ j : Nat, j + gj = L ∧ s4 = .int .i64 (j : Int) ∧ wy = wx)
      case atStart => exact ⟨0, by omega, rfl, rfl⟩
      case round =>
        obtain ⟨j, hj, rfl, rfl⟩ := hrel
        cases gk with
        | zero =>
          have q3 : ¬ (j : Int) < (L : Int) := by omega
          go_wp2_with fail
          go_roundg g1
          case measure => omega
          case rel => exact ⟨k + 1, by omega, by first | rfl | simp, rfl, HPN⟩
        | succ g2 =>
          have q3 : (j : Int) < (L : Int) := by omega
          have wj : IntKind.i64.wrap ((j : Int) + 1) = ((j + 1 : Nat) : Int) := wrapN (b := 1) (by omega)
          obtain ⟨y, hy⟩ : ∃ y, x.sv[j]? = some y := ⟨_, List.getElem?_eq_getElem (by have := HLL.out; omega)⟩
          obtain ⟨g3, o3, c3, A3, cc3, e3, hcell⟩ := RdS.at HSV.out (Below.refl _ _) hy
          rw [HLV.out, ← HLL.out] at e3
          cases e3
          clear hy
          by_cases n4 : 60 < y.ks.length
          · have r3 : (60 : Int) < (y.ks.length : Int) := by omega
            clear n4
            go_wp2_with fail
            exact HQ1.out
          · have r3 : ¬ (60 : Int) < (y.ks.length : Int) := by omega
            clear n4
            go_wp2_with fail
            go_roundg g2
            case measure => omega
            case rel => exact ⟨j + 1, by omega, by first | rfl | simp, rfl⟩
end Go.Proofs.YtmpgfpmkmgebdaaGreatDoor
/- QuorumKeeps: what stands between the deeds, no program: what each deed leaves. -/
namespace Go.Proofs.YtmpgfpmkmgebdaaGreatDoor
open Go.RowKit Go.Maps
open W
set_option linter.unusedVariables false
/-- what may be found, as it stands -/
def KF (n k : Int) (V : Wd) (lm : List ByteArray) (B : Int) : Prop := ∃ fl yo R, FInv n k fl yo B R V ∧ fl.p ∈ lm ∧ ∀ y, yo = some y → y ∈ lm
def KI (n k : Int) (V : Wd) (bs : Bst) (op : Bool) (lm : List ByteArray) (B : Int) : Prop :=
  Sane n k V ∧ ((V.dark = true ∧ KF n k V lm B) ∨ (Lt V ∧ op = false ∧ KF n k V lm B) ∨ (Lt V ∧ op = true ∧ bs.p ∈ lm ∧ ∃ R, OInv n k bs B R V))
variable {n k : Int} {V V' : Wd} {bs : Bst} {op : Bool} {lm : List ByteArray} {B B' : Int}
theorem KI.f (h : KI n k V bs op lm B) : KF n k V lm B := by
  rcases h.2 with ⟨_, h⟩ | ⟨_, _, h⟩ | ⟨_, _, h1, R, h2⟩
  · exact h
  · exact h
  · exact ⟨bs, none, R, h2.f, h1, fun y e => by cases e⟩
theorem KF.up (h : KF n k V lm B) (hB : B ≤ B') : KF n k V lm B' := by
  obtain ⟨fl, yo, R, h1, h2⟩ := h
  exact ⟨fl, yo, R, h1.up hB, h2⟩
theorem KF.l (h : KF n k V lm B) (hl : V'.l = V.l) : KF n k V' lm B := by
  obtain ⟨fl, yo, R, h1, h2⟩ := h
  exact ⟨fl, yo, R, h1.l hl, h2⟩
theorem KI.up (h : KI n k V bs op lm B) (hB : B ≤ B') : KI n k V bs op lm B' := by
  refine ⟨h.1, ?_⟩
  rcases h.2 with ⟨h1, h2⟩ | ⟨h1, h2, h3⟩ | ⟨h1, h2, h3, R, h4⟩
  · exact .inl ⟨h1, h2.up hB⟩
  · exact .inr (.inl ⟨h1, h2, h3.up hB⟩)
  · exact .inr (.inr ⟨h1, h2, h3, R, h4.up hB⟩)
theorem KI.lt (h : KI n k V bs op lm B) (hd : V.dark = false) : Lt V := by
  rcases h.2 with ⟨h1, _⟩ | ⟨h1, _⟩ | ⟨h1, _⟩
  · rw [hd] at h1; cases h1
  · exact h1
  · exact h1
theorem KI.held (h : KI n k V bs true lm B) (hd : V.dark = false) : bs.p ∈ lm ∧ ∃ R, OInv n k bs B R V := by
  rcases h.2 with ⟨h1, _⟩ | ⟨_, h1, _⟩ | ⟨_, _, h1⟩
  · rw [hd] at h1; cases h1
  · cases h1
  · exact h1
theorem KI.cut (h : KI n k V bs op lm B) (a : Int) : KI n k (cutW V a).2 bs op lm B := by
  have e : (cutW V a).2.l = V.l ∧ (cutW V a).2.dark = V.dark := by
    unfold cutW
    split <;> exact ⟨rfl, rfl⟩
  refine ⟨h.1.of (by rw [e.1]), ?_⟩
  rcases h.2 with ⟨h1, h2⟩ | ⟨h1, h2, h3⟩ | ⟨h1, h2, h3, R, h4⟩
  · exact .inl ⟨e.2.trans h1, h2.l e.1⟩
  · exact .inr (.inl ⟨h1.l (e.2.trans h1.1) e.1, h2, h3.l e.1⟩)
  · exact .inr (.inr ⟨h1.l (e.2.trans h1.1) e.1, h2, h3, R, h4.l e.1⟩)
theorem KI.crash (h : KI n k V bs op lm B) (sv : List Sv) : KI n k (crashW V sv) bs false lm B := by
  obtain ⟨fl, yo, R, h1, h2⟩ := h.f
  obtain ⟨c1, c2, c3⟩ := crash_is h.1 h1 sv
  exact ⟨c1, .inr (.inl ⟨c2, rfl, fl, yo, R, c3, h2⟩)⟩
theorem KI.strike (h : KI n k V bs op lm B) (hd : V.dark = false) {q t m a c : Int} (hm : Mays V n q t m a c (n - k)) : KI n k (strikeW V q t m a c).2 bs op lm B := by
  have hL := h.lt hd
  rcases h.2 with ⟨h1, _⟩ | ⟨_, h2, fl, yo, R, h3, h4⟩ | ⟨_, h2, h3, R, h4⟩
  · rw [hd] at h1; cases h1
  · obtain ⟨c1, c2, c3⟩ := strike_is h.1 hL h3 hm.1 hm.2
    exact ⟨c1, .inr (.inl ⟨c2, h2, fl, yo, R, c3, h4⟩)⟩
  · obtain ⟨c1, c2, c3⟩ := strike_is h.1 hL h4.f hm.1 hm.2
    exact ⟨c1, .inr (.inr ⟨c2, h2, h3, R, ⟨c3, h4.le, h4.ok, h4.fk, h4.fn, h4.fb⟩⟩)⟩
theorem KI.may (h : KI n k V bs true lm B) (hd : V.dark = false) : mayP V bs = 0 := by
  obtain ⟨_, R, hO⟩ := h.held hd
  unfold mayP
  rw [if_pos (by rw [hO.fn, h.1.len])]
  exact hO.ok
theorem KI.mend (h : KI n k V bs true lm B) (hd : V.dark = false) : ((mendW V bs).1 = 56 ∧ KI n k (mendW V bs).2 bs false lm B) ∨ ((mendW V bs).1 = 53 ∧ KI n k (mendW V bs).2 bs true lm B) ∨ ((mendW V bs).1 = 0 ∧ KI n k (clearW (mendW V bs).2) bs true lm B) := by
  obtain ⟨hp, R, hO⟩ := h.held hd
  rcases mend_is h.1 (h.lt hd) hO with ⟨e, c1, c2, c3⟩ | ⟨e, c1, c2, c3⟩ | ⟨e, c1, c2, c3⟩
  · exact .inl ⟨e, c2, .inl ⟨c1, bs, none, R, c3, hp, fun y e => by cases e⟩⟩
  · exact .inr (.inl ⟨e, c2, .inr (.inr ⟨c1, rfl, hp, R, c3⟩)⟩)
  · exact .inr (.inr ⟨e, c2, .inr (.inr ⟨c1, rfl, hp, R, c3⟩)⟩)
theorem KI.read (h : KI n k V bs op lm B) (hd : V.dark = false) : ((readW V).1 = 56 ∧ KI n k (readW V).2.2 bs false lm B) ∨ ((readW V).1 = 0 ∧ (readW V).2.1.p ∈ lm ∧ KI n k (readW V).2.2 bs op lm B) := by
  have hL := h.lt hd
  obtain ⟨fl, yo, R, h1, h2, h3⟩ := h.f
  obtain ⟨el, e⟩ := read_is h.1 hL h1
  have hS : Sane n k (readW V).2.2 := h.1.of (by rw [el])
  rcases e with ⟨e1, e2⟩ | ⟨e1, e2, e3⟩
  · exact .inl ⟨e1, hS, .inl ⟨e2, fl, yo, R, h1.l el, h2, h3⟩⟩
  · refine .inr ⟨e1, ?_, hS, ?_⟩
    · rcases e3 with e3 | e3
      · rw [e3]; exact h2
      · exact h3 _ e3
    · rcases h.2 with ⟨t1, _⟩ | ⟨t1, t2, t3⟩ | ⟨t1, t2, t3, R', t4⟩
      · rw [hd] at t1; cases t1
      · exact .inr (.inl ⟨hL.l e2 el, t2, t3.l el⟩)
      · exact .inr (.inr ⟨hL.l e2 el, t2, t3, R', t4.l el⟩)
theorem KI.write (h : KI n k V bs true lm B) (hd : V.dark = false) (hB : B < 2147483647) {p : ByteArray} (hp : p.size ≤ 65486) : ((writeW V bs p).1 = 56 ∧ (writeW V bs p).2.2.dark = true ∧ KI n k (writeW V bs p).2.2 bs false (lm ++ [p]) (B + 1)) ∨ ((writeW V bs p).1 = 0 ∧ (writeW V bs p).2.1.p = p ∧ KI n k (writeW V bs p).2.2 (writeW V bs p).2.1 true [p] (B + 1)) := by
  obtain ⟨hm, R, hO⟩ := h.held hd
  rcases write_is h.1 (h.lt hd) hO hB hp with ⟨e, c1, c2, R', c3⟩ | ⟨e, c1, c2, c3, R', c4⟩
  · exact .inl ⟨e, c1, c2, .inl ⟨c1, bs, some p, R', c3, List.mem_append_left _ hm, fun y e => by cases e; simp⟩⟩
  · exact .inr ⟨e, c1, c3, .inr (.inr ⟨c2, rfl, by rw [c1]; simp, R', c4⟩)⟩
theorem KI.open (h : KI n k V bs op lm B) (hd : V.dark = false) (hB : B < 2147483647) : ((openW V).1 = 56 ∧ (openW V).2.2.dark = true ∧ KI n k (openW V).2.2 bs false lm (B + 1)) ∨ ((openW V).1 = 0 ∧ (openW V).2.1.p ∈ lm ∧ KI n k (openW V).2.2 (openW V).2.1 true [(openW V).2.1.p] (B + 1)) := by
  obtain ⟨fl, yo, R, h1, h2, h3⟩ := h.f
  rcases open_is h.1 (h.lt hd) h1 hB with ⟨e, c1, c2, R', c3⟩ | ⟨e, c1, c2, c3, R', c4⟩
  · exact .inl ⟨e, c1, c2, .inl ⟨c1, fl, yo, R', c3, h2, h3⟩⟩
  · refine .inr ⟨e, ?_, c2, .inr (.inr ⟨c1, rfl, by simp, R', c4⟩)⟩
    rcases c3 with c3 | c3
    · rw [c3]; exact h2
    · exact h3 _ c3
theorem KI.init {l : List Kp} {N : Nat} (hl : l.length = N) (hs : ∀ x ∈ l, x.st = st0 ∧ x.sus = false) (hk : 1 ≤ k ∧ k ≤ (N : Int) ∧ (N : Int) < 2 * k) (hN : N ≤ 12) {p : ByteArray} (hp : p.size ≤ 65486) : (initW (newW l) k N p).1 = 0 ∧ (initW (newW l) k N p).2.1 = ⟨1, 1, k, N, p⟩ ∧ KI (N : Int) k (initW (newW l) k N p).2.2 ⟨1, 1, k, N, p⟩ true [p] 1 := by
  have hz : (l.countP fun x => x.sus) = 0 := by
    rw [List.countP_eq_zero]
    intro x hx
    rw [(hs x hx).2]
    decide
  have hS : Sane (N : Int) k (newW l) := ⟨by show ((l.length : Nat) : Int) = N; rw [hl], hk.1, hk.2.1, hk.2.2, by show ((l.countP fun x => x.sus : Nat) : Int) ≤ _; rw [hz]; omega⟩
  rcases init_is hS (by omega) rfl hs hp with ⟨_, e⟩ | ⟨e, c1, c2, c3, R, c4⟩
  · have := Cl.nc.init (V := newW l) ⟨rfl, rfl⟩ k (N : Int) p
    rw [this.1] at e
    cases e
  · exact ⟨e, c1, c3, .inr (.inr ⟨c2, rfl, by simp, R, c4⟩)⟩
/-- what stands ahead of the deed of number k -/
structure KS (w0 w : World) (b q q5 N : Nat) (K : Int) (k : Nat) (V : Wd) (bs : Bst) (op : Bool) (lm : List ByteArray) (m c : Nat) : Prop where
  hs : HS w0 w b q m c (fun j => j = q5) V bs op lm
  hc : Has w q5 #[.int .i64 K, .int .i64 (N : Int)] 26
  ok : Ok (100 + 100 * k) N V
  sm : All Sm V
  ki : KI (N : Int) K V bs op lm ((k : Int) + 1)
theorem KS.go {w0 w w' : World} {b q q5 N : Nat} {K : Int} {k : Nat} {m c m' c' : Nat} {bs' : Bst} {op' : Bool} {lm' : List ByteArray} (h : KS w0 w b q q5 N K k V bs op lm m c) (hs : HS w0 w' b q m' c' (fun j => j = q5) V' bs' op' lm') (hk : Kpt (fun j => j = q5) w w') {M : Nat} (hok : Ok M N V') (hM : M ≤ 200 + 100 * k) (hsm : All Sm V') (hki : KI (N : Int) K V' bs' op' lm' ((k : Int) + 2)) : KS w0 w' b q q5 N K (k + 1) V' bs' op' lm' m' c' :=
  ⟨hs, hk.has rfl h.hc, hok.more (by omega), hsm, by rw [show (((k + 1 : Nat) : Int) + 1) = (k : Int) + 2 by omega]; exact hki⟩
end Go.Proofs.YtmpgfpmkmgebdaaGreatDoor
