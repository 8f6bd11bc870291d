/- The walk of SolveTells. -/
import Derived.Test.YtjgjcbgeekfkkaaAwake
import Derived.Test.YtjgjcbgeekfkkaaRSolve
namespace Go.Proofs.Ytjgjcbgeekfkkaa
open Go.RowKit
theorem Owns.same {e : TypeId} {base : Nat} {v : Value} {xs : List Value} {w w' : World} (h : Owns e base v xs w) (hk : ∀ b, base ≤ b → b < w.heap.size → w'.heap[b]? = w.heap[b]?) : Owns e base v xs w' := by
  obtain ⟨h1, h2⟩ := h
  refine ⟨h1, ?_⟩
  rcases h2 with h2 | ⟨g, cap, cur, hv, hg, hh, h3⟩
  · exact .inl h2
  · exact .inr ⟨g, cap, cur, hv, hg, by rw [hk g hg (Array.getElem?_eq_some_iff.1 hh).1]; exact hh, h3⟩
theorem int_ne_self (a : Int) : (a != a) = false := by simp
theorem ansS_lt (m : List (List Nat)) (l : List Nat) : ∀ x ∈ ansS m l, x < 256 := fun x hx => by
  unfold ansS at hx
  split at hx
  · simp only [List.mem_map] at hx
    obtain ⟨i, _, rfl⟩ := hx
    exact El.xs_lt (fun _ => Fld.mul_lt _ _) _
  · simp at hx
theorem ansS_len (m : List (List Nat)) (l : List Nat) : (ansS m l).length ≤ m.length := by
  unfold ansS
  split <;> simp
set_option maxRecDepth 20000 in
set_option maxHeartbeats 4000000 in
theorem tells_walk (v vl : Value) (m : List (List Nat)) (l : List Nat) (w : World) (hm : Mat w v m) (hl : RowC w vl l) :
    Calls Try.prog 3 #[v, vl] w fun e w' => e = .returned (.bool true) ∧ Below w.heap.size w w' := by
  have HM := hid hm
  have HL := hid hl
  obtain ⟨⟨al, cl, hvl, hl63, _⟩, _⟩ := hl
  subst hvl
  obtain ⟨am, cm, hvm, hm63, _⟩ := hm
  subst hvm
  go_enter Try.func3, Try.ntmps3
  go_wp2_with fail
  refine (long_any _ m w HM.out).mono ?_
  rintro e w1 ⟨b, rfl, hb, rfl⟩
  cases b with
  | true =>
    go_wp2_with fail
    refine (awake_any _).mono ?_
    rintro e w2 ⟨rfl, b2⟩
    go_wp2_with fail
    go_ret
    exact ⟨rfl, b2⟩
  | false =>
  obtain ⟨n1, n2⟩ := hb rfl
  clear hb
  by_cases hl1 : 20 < l.length
  · have d1 : decide ((20 : Int) < (l.length : Int)) = true := by simp; omega
    go_wp2_with fail
    refine (awake_any _).mono ?_
    rintro e w2 ⟨rfl, b2⟩
    go_wp2_with fail
    go_ret
    exact ⟨rfl, b2⟩
  have d1 : decide ((20 : Int) < (l.length : Int)) = false := by simp; omega
  have hown := hid (own_any _ m w1 HM.out (by omega) (fun i hi => by have := n2 i hi; omega))
  have hSl := hid (Nat.le_trans (ansS_len m l) (Nat.le_trans n1 (by decide : (12 : Nat) ≤ 9223372036854775807)))
  clear n2
  go_wp2_with fail
  refine hown.out.mono ?_
  rintro e w2 ⟨vin, rfl, hO, b2⟩
  have hMin := (hO.newM (by omega)).mat
  rw [rowsOf_self] at hMin
  have M0 : Hid (∀ W, Below w2.heap.size w2 W → Mat W vin m ∧ Mat W (.slice am m.length cm) m ∧ RowC W (.slice al l.length cl) l ∧ Below w1.heap.size w1 W) := fun W hW =>
    ⟨hMin.below hW, HM.out.below (belowCall b2 hW), HL.out.below (belowCall b2 hW), belowCall b2 hW⟩
  have E1 : (errT m != errT m) = false := int_ne_self _
  have E2 : (errD m != errD m) = false := int_ne_self _
  have E3 : (errS m l != errS m l) = false := int_ne_self _
  have E4 : (((ansK m : Nat) : Int) != ((ansK m : Nat) : Int)) = false := int_ne_self _
  have E5 : ((ofBs (ansS m l)).toList == (ofBs (ansS m l)).toList) = true := str_eq _
  clear hown hO hMin d1
  generalize hBS : w2.heap.size = BS at *
  go_wp2_with fail
  go_loopw [6] (fun vi wr => ∃ k : Nat, k ≤ 2 ∧ vi = .int .i64 (k : Int) ∧ Below BS w2 wr) (fun vi _ => 2 - (intOf vi).toNat)
  case atStart => exact ⟨0, by omega, rfl, by rw [← hBS]; exact Below.refl _ _⟩
  case round =>
    obtain ⟨k, hk, rfl, hb⟩ := hrel
    have hBw : BS ≤ wr.heap.size := by rw [← hBS]; exact hb.size
    by_cases hlt : k < 2
    · have d0 : (k : Int) < 2 := by omega
      have m0 := M0.out _ hb
      go_wp2_with fail
      refine (turn_any vin m wr m0.1).mono ?_
      rintro e w3 ⟨va, rfl, hA, c3⟩
      have B3 : Below BS w2 w3 := hb.trans (c3.mono hBw)
      have s3 : BS ≤ w3.heap.size := Nat.le_trans hBw c3.size
      have m3 := M0.out _ B3
      go_wp2_with fail
      refine (refTurn_any _ m w3 m3.2.1).mono ?_
      rintro e w4 ⟨vb, rfl, hBb, c4⟩
      have B4 : Below BS w2 w4 := B3.trans (c4.mono s3)
      have s4 : BS ≤ w4.heap.size := Nat.le_trans s3 c4.size
      have m4 := M0.out _ B4
      go_wp2_with fail
      refine (down_any vin m w4 m4.1).mono ?_
      rintro e w5 ⟨vc, rfl, hCc, c5⟩
      have B5 : Below BS w2 w5 := B4.trans (c5.mono s4)
      have s5 : BS ≤ w5.heap.size := Nat.le_trans s4 c5.size
      have m5 := M0.out _ B5
      go_wp2_with fail
      refine (refDownC_any _ m w5 m5.2.1).mono ?_
      rintro e w6 ⟨vd, rfl, hDd, c6⟩
      have B6 : Below BS w2 w6 := B5.trans (c6.mono s5)
      have s6 : BS ≤ w6.heap.size := Nat.le_trans s5 c6.size
      have m6 := M0.out _ B6
      go_wp2_with fail
      refine (rank_any vin m w6 m6.1).mono ?_
      rintro e w7 ⟨rfl, c7⟩
      have B7 : Below BS w2 w7 := B6.trans (c7.mono s6)
      have s7 : BS ≤ w7.heap.size := Nat.le_trans s6 c7.size
      have m7 := M0.out _ B7
      go_wp2_with fail
      refine (refRank_any _ m w7 m7.2.1).mono ?_
      rintro e w8 ⟨rfl, c8⟩
      have B8 : Below BS w2 w8 := B7.trans (c8.mono s7)
      have s8 : BS ≤ w8.heap.size := Nat.le_trans s7 c8.size
      have m8 := M0.out _ B8
      go_wp2_with fail
      refine (solve_any vin _ m l w8 m8.1 m8.2.2.1).mono ?_
      rintro e w9 ⟨vo, rfl, hOo, c9⟩
      have B9 : Below BS w2 w9 := B8.trans (c9.mono s8)
      have s9 : BS ≤ w9.heap.size := Nat.le_trans s8 c9.size
      have m9 := M0.out _ B9
      go_wp2_with fail
      refine (refSolve_any _ _ m l w9 m9.2.1 m9.2.2.1.1).mono ?_
      rintro e w10 ⟨vq, rfl, hQq, c10⟩
      have B10 : Below BS w2 w10 := B9.trans (c10.mono s9)
      have s10 : BS ≤ w10.heap.size := Nat.le_trans s9 c10.size
      have D9 : Below w9.heap.size w9 w10 := c10
      have D8 : Below w8.heap.size w8 w10 := belowCall c9 D9
      have D7 : Below w7.heap.size w7 w10 := belowCall c8 D8
      have D6 : Below w6.heap.size w6 w10 := belowCall c7 D7
      have D5 : Below w5.heap.size w5 w10 := belowCall c6 D6
      have D4 : Below w4.heap.size w4 w10 := belowCall c5 D5
      have D3 : Below w3.heap.size w3 w10 := belowCall c4 D4
      have NA : Hid (NewM wr.heap.size w3.heap.size w10 va (ansT m)) := hA.same D3.size (fun b _ h2 => D3.block b h2)
      have NB := hid (hBb.below D4)
      have NC : Hid (NewM w4.heap.size w5.heap.size w10 vc (ansD m)) := hCc.same D5.size (fun b _ h2 => D5.block b h2)
      have ND : Hid (NewM w5.heap.size w6.heap.size w10 vd (ansD m)) := hDd.same D6.size (fun b _ h2 => D6.block b h2)
      have NO := hid (hOo.below D9)
      have NQ := hid hQq
      have z3 := c3.size
      have z4 := c4.size
      have z5 := c5.size
      have z6 := c6.size
      have z7 := c7.size
      have z8 := c8.size
      have z9 := c9.size
      have z10 := c10.size
      clear hA hBb hCc hDd hOo hQq m0 m3 m4 m5 m6 m7 m8 m9 B3 B4 B5 B6 B7 B8 B9 D3 D4 D5 D6 D7 D8 D9 c3 c4 c5 c6 c7 c8 c9 c10
      go_wp2_with fail
      refine (same_any wr.heap.size w3.heap.size va vb (ansT m) (ansT m) w10 NA.out NB.out (by omega) (by omega)).mono ?_
      rintro e w11 ⟨rfl, K11⟩
      rw [decide_eq_true rfl]
      have z11 := K11.1.size
      have NC1 : Hid (NewM w4.heap.size w5.heap.size w11 vc (ansD m)) := NC.out.same z11 (fun b h1 h2 => K11.2 b (by omega) (by omega))
      have ND1 : Hid (NewM w5.heap.size w6.heap.size w11 vd (ansD m)) := ND.out.same z11 (fun b h1 h2 => K11.2 b (by omega) (by omega))
      have NO1 : Hid (Owns 5 w8.heap.size vo (U8s (ansS m l)).toList w11) := NO.out.same (fun b h1 h2 => K11.2 b (by omega) h2)
      have NQ1 : Hid (Owns 5 w9.heap.size vq (U8s (ansS m l)).toList w11) := NQ.out.same (fun b h1 h2 => K11.2 b (by omega) h2)
      have B11 : Below BS w2 w11 := B10.trans (K11.1.mono hBw)
      clear NA NB NC ND NO NQ K11
      go_wp2_with fail
      refine (same_any w4.heap.size w5.heap.size vc vd (ansD m) (ansD m) w11 NC1.out ND1.out.mat (by omega) (by omega)).mono ?_
      rintro e w12 ⟨rfl, K12⟩
      rw [decide_eq_true rfl]
      have NO2 := NO1.out.same (w' := w12) (fun b h1 h2 => K12.2 b (by omega) h2)
      have NQ2 := NQ1.out.same (w' := w12) (fun b h1 h2 => K12.2 b (by omega) h2)
      have q1 := conv_row (NO2.row (ansS_lt m l) hSl.out)
      have q2 := conv_row (NQ2.row (ansS_lt m l) hSl.out)
      have B12 : Below BS w2 w12 := B11.trans (K12.1.mono s4)
      clear NC1 ND1 NO1 NQ1 NO2 NQ2 K12
      go_wp2_with fail
      exact ⟨⟨k + 1, by omega, rfl, B12⟩, by simp [intOf]; omega⟩
    · obtain rfl : k = 2 := by omega
      have m0 := M0.out _ hb
      go_wp2_with fail
      refine (refSame_any vin _ m m wr m0.1 m0.2.1).mono ?_
      rintro e w3 ⟨rfl, c3⟩
      rw [decide_eq_true rfl]
      go_wp2_with fail
      refine (awake_any _).mono ?_
      rintro e w4 ⟨rfl, c4⟩
      go_wp2_with fail
      go_ret
      exact ⟨rfl, belowCall (belowCall m0.2.2.2 c3) c4⟩
end Go.Proofs.Ytjgjcbgeekfkkaa
