/- The blob that stands behind its length; how long payloads may be. -/
import Derived.Test.YtfbjpgcgdhhfnaaCMap
namespace Go.Proofs.Ytfbjpgcgdhhfnaa
open Go.RowKit
set_option maxRecDepth 20000 in
theorem or_next {n d : Nat} (hn : n < 72057594037927936) (hd : d < 256) : bits .or .u64 ((n : Int) * 256) (d : Int) = ((n * 256 + d : Nat) : Int) := by
  have h1 : n * 256 < 18446744073709551616 := by omega
  have h2 : n * 256 + d < 18446744073709551616 := by omega
  have hd2 : d < 18446744073709551616 := by omega
  have e : n * 256 ||| d = n * 256 + d := by
    have := Nat.shiftLeft_add_eq_or_of_lt (i := 8) (b := d) (show d < 2 ^ 8 from hd) n
    rw [Nat.shiftLeft_eq] at this
    exact this.symm
  rw [show ((n : Int) * 256) = ((n * 256 : Nat) : Int) by simp]
  show IntKind.u64.wrap ((BitVec.ofInt 64 ((n * 256 : Nat) : Int) ||| BitVec.ofInt 64 (d : Int)).toNat : Int) = _
  rw [BitVec.toNat_or, BitVec.ofInt_natCast, BitVec.ofInt_natCast, BitVec.toNat_ofNat, BitVec.toNat_ofNat, show (2 : Nat) ^ 64 = 18446744073709551616 from rfl, Nat.mod_eq_of_lt h1, Nat.mod_eq_of_lt hd2, e]
  simp [IntKind.wrap, IntKind.bits, IntKind.signed]; omega
set_option maxRecDepth 20000 in
theorem blobOf_any (g M : Nat) (D : Nat → Nat) (w : World) (hG : Has w g (U8s (rowN M D)) 5) (hD : ∀ i, D i < 256) (hM : 8 ≤ M) (hM6 : M ≤ 1000000) :
    Calls Try.prog 37 #[.slice (some ⟨g, 0, none⟩) M M] w fun e w' => w' = w ∧ if num D 8 ≤ M - 8 then e = .returned (.tuple #[.string (ofBs (rowN (num D 8) (fun i => D (8 + i)))), .bool true]) else e = .returned (.tuple #[.string ⟨#[]⟩, .bool false]) := by
  have d8 : (8 : Int) ≤ (M : Int) := by omega
  have hcell : Hid (∀ i, i < M → w.cell? ⟨g, i, none⟩ = some (.int .u8 (D i : Int))) := fun i hi => by
    rw [hG.cell, U8s_get _ _ (by rw [rowN_length]; exact hi), rowN_get _ _ _ hi]
  have HD := hid hD
  have hgl := hG.lt
  have hM0 : ¬ M = 0 := by omega
  clear hG hD
  go_enter Try.func37, Try.ntmps37
  go_wp2_with fail
  go_loopg [4, 11] 8 (fun g1 s4 s11 wx => ∃ k : Nat, k + g1 = 8 ∧ s11 = .int .i64 (k : Int) ∧ s4 = .int .u64 ((num D k : Nat) : Int) ∧ wx = w)
  case atStart => exact ⟨0, by omega, rfl, rfl, rfl⟩
  case round =>
    obtain ⟨k, hkg, rfl, rfl, rfl⟩ := hrel
    cases gk with
    | zero =>
      obtain rfl : k = 8 := by omega
      obtain ⟨o', ho'⟩ : ∃ o' : Nat, Hid (o' = if M = 8 then 0 else 8) := ⟨if M = 8 then 0 else 8, hid rfl⟩
      have hif : (if M = 8 then some (⟨g, 0, none⟩ : Addr) else some ⟨g, 8, none⟩) = some ⟨g, o', none⟩ := by
        rw [ho'.out]; split <;> rfl
      have hL := num_lt HD.out 8
      simp only [Nat.reducePow] at hL
      have ew : IntKind.u64.wrap ((M - 8 : Nat) : Int) = ((M - 8 : Nat) : Int) := by simp [IntKind.wrap, IntKind.bits, IntKind.signed]; omega
      by_cases hle : num D 8 ≤ M - 8
      · have HRw : Hid (∀ c, Row8 wr (.slice (some ⟨g, o', none⟩) (num D 8) c) (rowN (num D 8) (fun i => D (8 + i)))) := fun c => by
          refine ⟨_, c, by rw [rowN_length], by rw [rowN_length]; omega, rowN_lt (fun j => HD.out _), fun hp => ⟨g, o', rfl, hgl, fun t ht => ?_⟩⟩
          rw [rowN_length] at ht hp
          have h8 : ¬ M = 8 := by omega
          rw [ho'.out, if_neg h8, hcell.out (8 + t) (by omega), rowN_get _ _ _ ht]
        have hcv := conv_row (HRw.out (M - 8))
        have d1 : ¬ ((((M - 8 : Nat) : Int)) < ((num D 8 : Nat) : Int)) := by omega
        have d2 : ((num D 8 : Nat) : Int) ≤ ((M - 8 : Nat) : Int) := by omega
        clear HRw
        go_wp2_with fail
        go_ret2
        first | exact ⟨rfl, rfl⟩ | exact ⟨rfl, by rw [if_pos hle]; rfl⟩
      · have d1 : (((M - 8 : Nat) : Int)) < ((num D 8 : Nat) : Int) := by omega
        go_wp2_with fail
        go_ret2
        first | exact ⟨rfl, rfl⟩ | exact ⟨rfl, by rw [if_neg hle]; rfl⟩
    | succ g1 =>
      have hz1 : (k : Int) < 8 := by omega
      have q0 := hcell.out k (by omega)
      have hk := HD.out k
      have hn := num_lt HD.out k
      have HN : Hid (num D (k + 1) = num D k * 256 + D k) := rfl
      generalize D k = dk at *
      generalize num D k = nk at *
      have hn8 : nk < 72057594037927936 := Nat.lt_of_lt_of_le hn (Nat.pow_le_pow_right (n := 256) (j := 7) (by decide) (by omega))
      have hor := or_next hn8 hk
      have HN' : Hid (((nk * 256 + dk : Nat) : Int) = ((num D (k + 1) : Nat) : Int)) := by unfold Hid; rw [HN.out]
      rw [HN'.out] at hor
      go_wp2_with fail
      go_roundg g1
      case measure => omega
      case rel => exact ⟨k + 1, by omega, by first | rfl | simp, rfl, rfl⟩
/-- may these be as long as they are? -/
def mayL (K : Nat) (ps : List (List Nat)) : Bool := decide (sz K 0 ≤ (ps.getD 0 []).length ∧ (ps.getD 0 []).length ≤ sz K 32768 ∧ ∀ j, j < ps.length → (ps.getD j []).length = (ps.getD 0 []).length)
set_option maxRecDepth 20000 in
theorem mayLengths_any (K N : Nat) (vp : Value) (ps : List (List Nat)) (w : World) (h1 : 1 ≤ K) (h2 : K ≤ N) (h3 : N ≤ 12) (hp : Strs w vp ps) (hne : 0 < ps.length) :
    Calls Try.prog 35 #[cv K N, vp] w fun e w' => e = .returned (.bool (mayL K ps)) ∧ Below w.heap.size w w' := by
  have hm : Mx.mayC K N = true := by unfold Mx.mayC; simp; omega
  obtain ⟨g, o, cap, rfl, hl, hg, hc⟩ := hp.some hne
  have bA : Below w.heap.size w (w.alloc (.cells #[.int .i64 (K : Int), .int .i64 (N : Int)] 24)) := (Below.refl _ _).alloc (Nat.le_refl _) _
  have hbox : Has (w.alloc (.cells #[.int .i64 (K : Int), .int .i64 (N : Int)] 24)) w.heap.size #[.int .i64 (K : Int), .int .i64 (N : Int)] 24 := Has.new w w.heap.size _ 24 rfl
  have HS0 : Hid (∀ W, Calls Try.prog 8 #[.agg #[.int .i64 (K : Int), .int .i64 (N : Int)], .int .i64 0] W fun e w' => e = .returned (.tuple #[.int .i64 ((sz K 0 : Nat) : Int), .int .i64 0]) ∧ Below W.heap.size W w') := fun W => by
    have := size_any K N 0 W
    have e : ansZ K N 0 = ((sz K 0 : Nat) : Int) ∧ errZ K N 0 = 0 := by unfold ansZ errZ; rw [hm]; simp
    rw [e.1, e.2] at this; exact this
  have HS1 : Hid (∀ W, Calls Try.prog 8 #[.agg #[.int .i64 (K : Int), .int .i64 (N : Int)], .int .i64 32768] W fun e w' => e = .returned (.tuple #[.int .i64 ((sz K 32768 : Nat) : Int), .int .i64 0]) ∧ Below W.heap.size W w') := fun W => by
    have := size_any K N 32768 W
    have e : ansZ K N 32768 = ((sz K 32768 : Nat) : Int) ∧ errZ K N 32768 = 0 := by unfold ansZ errZ; rw [hm]; simp
    rw [e.1, e.2] at this; exact this
  have hsz : ∀ l : List Nat, (ofBs l).size = l.length := ofBs_size
  have HCl : Hid (∀ W, Below w.heap.size w W → ∀ j, j < ps.length → W.cell? ⟨g, o + j, none⟩ = some (.string (ofBs (ps.getD j [])))) := fun W hW j hj => cell_below hW hg (hc j hj)
  have HM : Hid (mayL K ps = decide (sz K 0 ≤ (ps.getD 0 []).length ∧ (ps.getD 0 []).length ≤ sz K 32768 ∧ ∀ j, j < ps.length → (ps.getD j []).length = (ps.getD 0 []).length)) := rfl
  have HB := hid hbox
  clear hc hp hbox hm
  obtain ⟨s0, hs0⟩ : ∃ s0, Hid (s0 = sz K 0) := ⟨_, rfl⟩
  obtain ⟨s1, hs1⟩ : ∃ s1, Hid (s1 = sz K 32768) := ⟨_, rfl⟩
  rw [← hs0.out] at HS0 HM
  rw [← hs1.out] at HS1 HM
  generalize hn : ps.length = n at *
  have hz0 : (0 : Int) < (n : Int) := by omega
  unfold cv
  go_enter Try.func35, Try.ntmps35
  go_wp2_with fail
  refine (HS0.out _).mono ?_
  rintro e w1 ⟨rfl, b1⟩
  have B1 := belowCall bA b1
  have hb1 := HB.out.below b1 (by simp)
  have hbl := hb1.lt
  have c0 : w1.cell? ⟨w.heap.size, 0, none⟩ = some (.int .i64 (K : Int)) := hb1.cell 0
  have c1 : w1.cell? ⟨w.heap.size, 1, none⟩ = some (.int .i64 (N : Int)) := hb1.cell 1
  clear b1
  go_wp2_with fail
  refine (HS1.out _).mono ?_
  rintro e w2 ⟨rfl, b2⟩
  have B2 := belowCall B1 b2
  have q0 := HCl.out w2 B2 0 (by omega)
  rw [Nat.add_zero] at q0
  clear c0 c1 b2 hb1 B1
  obtain ⟨p0, hp0⟩ : ∃ p0, Hid (p0 = ps.getD 0 []) := ⟨_, rfl⟩
  rw [← hp0.out] at q0 HM
  have hq := hsz p0
  by_cases hA : s0 ≤ p0.length ∧ p0.length ≤ s1
  · have d1 : decide ((p0.length : Int) < (s0 : Int)) = false := by simp; omega
    have d2 : decide ((s1 : Int) < (p0.length : Int)) = false := by simp; omega
    go_wp2_with fail
    go_loopg [36] n (fun g1 s36 wx => ∃ k : Nat, k + g1 = n ∧ s36 = .int .i64 (k : Int) ∧ Hid (∀ j, j < k → (ps.getD j []).length = p0.length) ∧ wx = w2)
    case atStart => exact ⟨0, by omega, rfl, fun j hj => absurd hj (by omega), rfl⟩
    case round =>
      obtain ⟨k, hkg, rfl, hj, rfl⟩ := hrel
      cases gk with
      | zero =>
        have hz1 : ¬ ((k : Int) < (n : Int)) := by omega
        have hr : mayL K ps = true := by rw [HM.out, decide_eq_true_iff]; exact ⟨hA.1, hA.2, fun j hjn => hj.out j (by omega)⟩
        clear hj q0
        go_wp2_with fail
        go_ret
        exact ⟨by first | rfl | (rw [hr]; rfl), B2⟩
      | succ g1 =>
        have hz1 : (k : Int) < (n : Int) := by omega
        have qk := HCl.out wr B2 k (by omega)
        obtain ⟨pk, hpk⟩ : ∃ pk, Hid (pk = ps.getD k []) := ⟨_, rfl⟩
        rw [← hpk.out] at qk
        have hqk := hsz pk
        clear q0
        by_cases he : pk.length = p0.length
        · have e0 : ((pk.length : Int) != (p0.length : Int)) = false := by rw [he]; simp
          have hj' : Hid (∀ j, j < k + 1 → (ps.getD j []).length = p0.length) := fun j hjk => by
            by_cases hlt : j < k
            · exact hj.out j hlt
            · obtain rfl : j = k := by omega
              rw [← hpk.out]; exact he
          clear hj he
          go_wp2_with fail
          go_roundg g1
          case measure => omega
          case rel => exact ⟨k + 1, by omega, by first | rfl | simp, hj', rfl⟩
        · have e0 : ((pk.length : Int) != (p0.length : Int)) = true := by simp; omega
          have hr : mayL K ps = false := by rw [HM.out, decide_eq_false_iff_not]; exact fun hh => he (by rw [hpk.out]; exact hh.2.2 k (by omega))
          clear hj he
          go_wp2_with fail
          go_ret
          exact ⟨by first | rfl | (rw [hr]; rfl), B2⟩
  · have hr : mayL K ps = false := by rw [HM.out, decide_eq_false_iff_not]; exact fun hh => hA ⟨hh.1, hh.2.1⟩
    by_cases h5 : p0.length < s0
    · have d1 : decide ((p0.length : Int) < (s0 : Int)) = true := by simp; omega
      go_wp2_with fail
      go_ret
      exact ⟨by first | rfl | (rw [hr]; rfl), B2⟩
    · have d1 : decide ((p0.length : Int) < (s0 : Int)) = false := by simp; omega
      have d2 : decide ((s1 : Int) < (p0.length : Int)) = true := by simp; omega
      go_wp2_with fail
      go_ret
      exact ⟨by first | rfl | (rw [hr]; rfl), B2⟩
end Go.Proofs.Ytfbjpgcgdhhfnaa
