/- Decode and Rebuild, the program's and the document's; CodeDecodes. -/
import Derived.Test.YtfbjpgcgdhhfnaaCRDec
namespace Go.Proofs.Ytfbjpgcgdhhfnaa
open Go.RowKit
def CapOk (vz : Value) : Prop := ∀ a n cap, vz = .slice a n cap → n ≤ cap ∧ cap ≤ 9223372036854775807
theorem refDecode_any (K N : Int) (vz vp : Value) (zs : List Int) (ps : List (List Nat)) (w : World) (hz : Ints64 w vz zs) (hcap : CapOk vz) (hp : Strs w vp ps) :
    Calls Try.prog 16 #[cv K N, vz, vp] w fun e w' => DecAns K N zs ps w w' e := by
  by_cases hpre : Mx.mayC K N = true ∧ zs.length = ps.length
  · obtain ⟨k, n, rfl, rfl, h1, h2, h3⟩ := mayC_facts hpre.1
    exact refDec_pre k n vz vp zs ps w h1 h2 h3 hz hcap hp hpre.2
  · exact refDec_no K N vz vp zs ps w hz hp hpre
theorem decode_any (K N : Int) (vz vp : Value) (zs : List Int) (ps : List (List Nat)) (w : World) (hz : Ints64 w vz zs) (hp : Strs w vp ps) :
    Calls Try.prog 10 #[cv K N, vz, vp] w fun e w' => DecAns K N zs ps w w' e := by
  have bA : Below w.heap.size w (w.alloc (.cells #[.int .i64 K, .int .i64 N] 24)) := (Below.refl _ _).alloc (Nat.le_refl _) _
  have hw := whole_any K N vz vp zs ps _ ⟨hz.1.below bA, hz.2⟩ (hp.below bA)
  unfold cv at hw ⊢
  go_enter Try.func10, Try.ntmps10
  go_wp2_with fail
  refine hw.mono ?_
  rintro e w1 ⟨s, r, er, rfl, hd, _, b1⟩
  have HD := hid hd
  clear hd
  go_wp2_with fail
  go_ret2
  exact ⟨s, er, rfl, HD.out, belowCall bA b1⟩
/-- what Rebuild answers -/
def RebIs (K N : Int) (zs : List Int) (ps : List (List Nat)) (x : Int) (s : List Nat) (er : Int) : Prop :=
  (¬ (Mx.mayC K N = true ∧ 0 ≤ x ∧ x < N) ∧ s = [] ∧ er = 1) ∨ ((Mx.mayC K N = true ∧ 0 ≤ x ∧ x < N) ∧ ∃ b e, DecIs K N zs ps b e ∧ ((e ≠ 0 ∧ s = [] ∧ er = e) ∨ (e = 0 ∧ s = payL K.toNat b x.toNat ∧ er = 0)))
theorem RebIs.one {K N : Int} {zs : List Int} {ps : List (List Nat)} {x : Int} {s s' : List Nat} {er er' : Int} (h : RebIs K N zs ps x s er) (h' : RebIs K N zs ps x s' er') : s = s' ∧ er = er' := by
  rcases h with ⟨a, rfl, rfl⟩ | ⟨a, b, e, d, c⟩
  · rcases h' with ⟨a', rfl, rfl⟩ | ⟨a', _⟩
    · exact ⟨rfl, rfl⟩
    · exact absurd a' a
  · rcases h' with ⟨a', _⟩ | ⟨_, b', e', d', c'⟩
    · exact absurd a a'
    · obtain ⟨rfl, rfl⟩ := d.one d'
      rcases c with ⟨c, rfl, rfl⟩ | ⟨c, rfl, rfl⟩
      · rcases c' with ⟨_, rfl, rfl⟩ | ⟨c', _⟩
        · exact ⟨rfl, rfl⟩
        · exact absurd c' c
      · rcases c' with ⟨c', _⟩ | ⟨_, rfl, rfl⟩
        · exact absurd c c'
        · exact ⟨rfl, rfl⟩
def RebAns (K N : Int) (zs : List Int) (ps : List (List Nat)) (x : Int) (w w' : World) (e : Ending) : Prop := ∃ s er, e = .returned (.tuple #[.string (ofBs s), .int .i64 er]) ∧ RebIs K N zs ps x s er ∧ (∀ y ∈ s, y < 256) ∧ Below w.heap.size w w'
theorem RebAns.refused {K N : Int} {zs : List Int} {ps : List (List Nat)} {x : Int} {w w' : World} {e : Ending} {er : Int} (he : e = .returned (.tuple #[.string ⟨#[]⟩, .int .i64 er])) (hd : RebIs K N zs ps x [] er) (hb : Below w.heap.size w w') : RebAns K N zs ps x w w' e :=
  ⟨[], er, he, hd, by simp, hb⟩
theorem DecIs.zero {K N : Int} {zs : List Int} {ps : List (List Nat)} {s : List Nat} {er : Int} (h : DecIs K N zs ps s er) (h0 : er = 0) : PreD K N zs ps ∧ IsOf K.toNat zs ps s := by
  rcases h with ⟨_, _, h⟩ | ⟨_, _, _, h⟩ | ⟨a, _, c⟩
  · omega
  · omega
  · rcases c with ⟨c, _⟩ | ⟨_, _, h⟩
    · exact ⟨a, c⟩
    · omega
theorem DecIs.lt {K N : Int} {zs : List Int} {ps : List (List Nat)} {s : List Nat} {er : Int} (h : DecIs K N zs ps s er) : ∀ x ∈ s, x < 256 := by
  rcases h with ⟨_, rfl, _⟩ | ⟨_, _, rfl, _⟩ | ⟨_, _, c⟩
  · simp
  · simp
  · rcases c with ⟨c, _⟩ | ⟨_, rfl, _⟩
    · exact c.2.1
    · simp
set_option maxRecDepth 20000 in
theorem rebuild_any (K N x : Int) (vz vp : Value) (zs : List Int) (ps : List (List Nat)) (w : World) (hz : Ints64 w vz zs) (hp : Strs w vp ps) :
    Calls Try.prog 11 #[cv K N, vz, vp, .int .i64 x] w fun e w' => RebAns K N zs ps x w w' e := by
  have bA : Below w.heap.size w (w.alloc (.cells #[.int .i64 K, .int .i64 N] 24)) := (Below.refl _ _).alloc (Nat.le_refl _) _
  have hbox : Has (w.alloc (.cells #[.int .i64 K, .int .i64 N] 24)) w.heap.size #[.int .i64 K, .int .i64 N] 24 := Has.new w w.heap.size _ 24 rfl
  have hmc := Mx.mayCode_any K N (w.alloc (.cells #[.int .i64 K, .int .i64 N] 24))
  have HWh : Hid (∀ W, Below w.heap.size w W → _) := fun W hW => whole_any K N vz vp zs ps W ⟨hz.1.below hW, hz.2⟩ (hp.below hW)
  have HMn : Hid (∀ W, _) := fun W => mayNumber_any K N x W
  unfold cv at HWh HMn ⊢
  cases hm : Mx.mayC K N with
  | false =>
    have HD : Hid (RebIs K N zs ps x [] 1) := .inl ⟨fun h => (by rw [hm] at h; cases h.1), rfl, rfl⟩
    go_enter Try.func11, Try.ntmps11
    go_wp2_with fail
    refine hmc.mono ?_
    rintro e w1 ⟨rfl, b1⟩
    rw [hm]
    go_wp2_with fail
    go_ret2
    exact RebAns.refused rfl HD.out (belowCall bA b1)
  | true =>
    go_enter Try.func11, Try.ntmps11
    go_wp2_with fail
    refine hmc.mono ?_
    rintro e w1 ⟨rfl, b1⟩
    rw [hm]
    have B1 := belowCall bA b1
    have hb1 := hbox.below b1 (by simp)
    have hbl := hb1.lt
    have c0 : w1.cell? ⟨w.heap.size, 0, none⟩ = some (.int .i64 K) := hb1.cell 0
    have c1 : w1.cell? ⟨w.heap.size, 1, none⟩ = some (.int .i64 N) := hb1.cell 1
    clear b1
    go_wp2_with fail
    refine (HMn.out w1).mono ?_
    rintro e w2 ⟨rfl, b2⟩
    have B2 := belowCall B1 b2
    have hb2 := hb1.below b2 hbl
    clear c0 c1 b2
    have c0 : w2.cell? ⟨w.heap.size, 0, none⟩ = some (.int .i64 K) := hb2.cell 0
    have c1 : w2.cell? ⟨w.heap.size, 1, none⟩ = some (.int .i64 N) := hb2.cell 1
    by_cases hx : 0 ≤ x ∧ x < N
    · rw [decide_eq_true hx]
      have HX := hid hx
      go_wp2_with fail
      refine (HWh.out w2 B2).mono ?_
      rintro e w3 ⟨s, r, er, rfl, hd, hs, b3⟩
      have B3 := belowCall B2 b3
      have HD := hid hd
      by_cases he : er = 0
      · obtain ⟨hpre, his⟩ := hd.zero he
        obtain ⟨k, n, rfl, rfl, h1, h2, h3⟩ := mayC_facts hm
        obtain ⟨xx, rfl⟩ : ∃ q : Nat, x = (q : Int) := ⟨x.toNat, by omega⟩
        have hstr := hs he
        have hsl : (encL k n s).length = n := encL_length _ _ _
        have hstr' : Strs w3 r (encL k n s) := hstr
        obtain ⟨gq, oq, cq, hr, _, hgq, hcq⟩ := hstr'.some (by omega)
        rw [hsl] at hr
        subst hr
        have q0 := hcq xx (by omega)
        rw [encL_get _ _ _ _ (by omega)] at q0
        have HR : Hid (RebIs k n zs ps xx (payL k s xx) 0) := .inr ⟨⟨hm, by omega, by omega⟩, s, er, HD.out, .inr ⟨he, rfl, rfl⟩⟩
        have dx : (xx : Int) < (n : Int) := by omega
        subst he
        clear hd hs hstr hstr' hcq his hpre
        go_wp2_with fail
        go_ret2
        exact ⟨_, 0, rfl, HR.out, payL_lt _ _ _, B3⟩
      · have HR : Hid (RebIs K N zs ps x [] er) := .inr ⟨⟨hm, HX.out⟩, s, er, HD.out, .inl ⟨he, rfl, rfl⟩⟩
        have en : (er != 0) = true := by simp [he]
        clear hd hs
        go_wp2_with fail
        go_ret2
        exact RebAns.refused rfl HR.out B3
    · rw [decide_eq_false hx]
      have HD : Hid (RebIs K N zs ps x [] 1) := .inl ⟨fun h => hx h.2, rfl, rfl⟩
      go_wp2_with fail
      go_ret2
      exact RebAns.refused rfl HD.out B2
set_option maxRecDepth 20000 in
theorem refRebuild_any (K N x : Int) (vz vp : Value) (zs : List Int) (ps : List (List Nat)) (w : World) (hz : Ints64 w vz zs) (hcap : CapOk vz) (hp : Strs w vp ps) :
    Calls Try.prog 17 #[cv K N, vz, vp, .int .i64 x] w fun e w' => RebAns K N zs ps x w w' e := by
  have bA : Below w.heap.size w (w.alloc (.cells #[.int .i64 K, .int .i64 N] 24)) := (Below.refl _ _).alloc (Nat.le_refl _) _
  have hbox : Has (w.alloc (.cells #[.int .i64 K, .int .i64 N] 24)) w.heap.size #[.int .i64 K, .int .i64 N] 24 := Has.new w w.heap.size _ 24 rfl
  have hmc := Mx.refMayCode_any K N (w.alloc (.cells #[.int .i64 K, .int .i64 N] 24))
  have HDe : Hid (∀ W, Below w.heap.size w W → _) := fun W hW => refDecode_any K N vz vp zs ps W ⟨hz.1.below hW, hz.2⟩ hcap (hp.below hW)
  unfold cv at HDe ⊢
  clear hcap
  cases hm : Mx.mayC K N with
  | false =>
    have HD : Hid (RebIs K N zs ps x [] 1) := .inl ⟨fun h => (by rw [hm] at h; cases h.1), rfl, rfl⟩
    go_enter Try.func17, Try.ntmps17
    go_wp2_with fail
    refine hmc.mono ?_
    rintro e w1 ⟨rfl, b1⟩
    rw [hm]
    go_wp2_with fail
    go_ret2
    exact RebAns.refused rfl HD.out (belowCall bA b1)
  | true =>
    go_enter Try.func17, Try.ntmps17
    go_wp2_with fail
    refine hmc.mono ?_
    rintro e w1 ⟨rfl, b1⟩
    rw [hm]
    have B1 := belowCall bA b1
    have hb1 := hbox.below b1 (by simp)
    have hbl := hb1.lt
    have c0 : w1.cell? ⟨w.heap.size, 0, none⟩ = some (.int .i64 K) := hb1.cell 0
    have c1 : w1.cell? ⟨w.heap.size, 1, none⟩ = some (.int .i64 N) := hb1.cell 1
    clear b1
    by_cases hx0 : x < 0
    · have d1 : decide (x < 0) = true := decide_eq_true hx0
      have HD : Hid (RebIs K N zs ps x [] 1) := .inl ⟨fun h => by omega, rfl, rfl⟩
      go_wp2_with fail
      go_ret2
      exact RebAns.refused rfl HD.out B1
    · have d1 : decide (x < 0) = false := decide_eq_false hx0
      by_cases hxN : N ≤ x
      · have d2 : decide (N ≤ x) = true := decide_eq_true hxN
        have HD : Hid (RebIs K N zs ps x [] 1) := .inl ⟨fun h => by omega, rfl, rfl⟩
        go_wp2_with fail
        go_ret2
        exact RebAns.refused rfl HD.out B1
      · have d2 : decide (N ≤ x) = false := decide_eq_false hxN
        go_wp2_with fail
        refine (HDe.out w1 B1).mono ?_
        rintro e w2 ⟨s, er, rfl, hd, b2⟩
        have B2 := belowCall B1 b2
        have hb2 := hb1.below b2 hbl
        have HD := hid hd
        by_cases he : er = 0
        · obtain ⟨hpre, his⟩ := hd.zero he
          obtain ⟨k, n, rfl, rfl, h1, h2, h3⟩ := mayC_facts hm
          obtain ⟨xx, rfl⟩ : ∃ q : Nat, x = (q : Int) := ⟨x.toNat, by omega⟩
          have c0' : w2.cell? ⟨w.heap.size, 0, none⟩ = some (.int .i64 (k : Int)) := hb2.cell 0
          have c1' : w2.cell? ⟨w.heap.size, 1, none⟩ = some (.int .i64 (n : Int)) := hb2.cell 1
          have hen := refEncode_any k n s w2 hd.lt
          have ee : errE k n s = 0 ∧ ansE k n s = encL k n s := by
            unfold errE ansE okE; rw [hm, if_pos rfl, if_pos his.1, decide_eq_true his.1]; exact ⟨rfl, rfl⟩
          rw [ee.1, ee.2] at hen
          unfold cv at hen
          have HEn := hid hen
          have HR : Hid (RebIs k n zs ps xx (payL k s xx) 0) := .inr ⟨⟨hm, by omega, by omega⟩, s, er, HD.out, .inr ⟨he, rfl, rfl⟩⟩
          have dx : (xx : Int) < (n : Int) := by omega
          subst he
          clear hd his hpre ee hen c0 c1 b2
          go_wp2_with fail
          refine HEn.out.mono ?_
          rintro e w3 ⟨ra, rfl, hsa, b3⟩
          have B3 := belowCall B2 b3
          have hsl : (encL k n s).length = n := encL_length _ _ _
          obtain ⟨gq, oq, cq, hr, _, hgq, hcq⟩ := hsa.some (by omega)
          rw [hsl] at hr
          subst hr
          have q0 := hcq xx (by omega)
          rw [encL_get _ _ _ _ (by omega)] at q0
          clear HEn hsa hcq b3 c0' c1'
          go_wp2_with fail
          go_ret2
          exact ⟨_, 0, rfl, HR.out, payL_lt _ _ _, B3⟩
        · have HR : Hid (RebIs K N zs ps x [] er) := .inr ⟨⟨hm, by omega, by omega⟩, s, er, HD.out, .inl ⟨he, rfl, rfl⟩⟩
          have en : (er != 0) = true := by simp [he]
          clear hd
          go_wp2_with fail
          go_ret2
          exact RebAns.refused rfl HR.out B2
theorem large_any (vp : Value) (ps : List (List Nat)) (w : World) (hp : Strs w vp ps) (hs : ∀ j, (ps.getD j []).length ≤ 140737488355328) :
    Calls Try.prog 15 #[vp] w fun e w' => ∃ b, e = .returned (.bool b) ∧ w' = w := by
  obtain ⟨a, cap, rfl, hl, _, hc⟩ := hp
  have HC := hid hc
  have HS := hid hs
  have hsz : Hid (∀ l : List Nat, (ofBs l).size = l.length) := ofBs_size
  clear hc hs
  generalize hn : ps.length = n at *
  go_enter Try.func15, Try.ntmps15
  go_wp2_with fail
  go_loopg [3, 4] n (fun g1 s3 s4 wx => ∃ k m : Nat, k + g1 = n ∧ s4 = .int .i64 (k : Int) ∧ s3 = .int .i64 (m : Int) ∧ m ≤ 140737488455328 ∧ wx = w)
  case atStart => exact ⟨0, 0, by omega, rfl, rfl, by omega, rfl⟩
  case round =>
    obtain ⟨k, m, hkg, rfl, rfl, hm, rfl⟩ := hrel
    cases gk with
    | zero =>
      have d1 : decide ((k : Int) < (n : Int)) = false := by simp; omega
      go_wp2_with fail
      go_ret
      exact ⟨_, rfl, rfl⟩
    | succ g1 =>
      have d1 : (k : Int) < (n : Int) := by omega
      by_cases hmm : m < 30000
      · have d2 : decide ((m : Int) < 30000) = true := by simp; omega
        obtain ⟨g, o, rfl, hg, hd⟩ := HC.out (by omega)
        have q0 := hd k (by omega)
        have hsk := HS.out k
        have hq := hsz.out (ps.getD k [])
        generalize ps.getD k [] = pk at *
        go_wp2_with fail
        go_roundg g1
        case measure => omega
        case rel => exact ⟨k + 1, m + 1 + pk.length, by omega, by first | rfl | simp, by first | rfl | simp, by omega, rfl⟩
      · have d2 : decide ((m : Int) < 30000) = false := by simp; omega
        go_wp2_with fail
        go_ret
        exact ⟨_, rfl, rfl⟩
end Go.Proofs.Ytfbjpgcgdhhfnaa
