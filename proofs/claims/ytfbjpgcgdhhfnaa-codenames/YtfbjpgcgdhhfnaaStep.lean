/- stepDown: the rows stepped down by the first columns, and how many are done. -/
import Derived.Test.YtfbjpgcgdhhfnaaEach
import Derived.Deep.LoopGhost
namespace Go.Proofs.Ytfbjpgcgdhhfnaa
open Go.RowKit
set_option maxRecDepth 20000 in
set_option maxHeartbeats 2000000 in
theorem stepDown_any (base T R W C : Nat) (f : El.M) (w : World) (h : MW base w.heap.size T R (fun _ => W) f w) (hb : El.Byt f) (hR0 : 0 < R) (hR : R ≤ 1000000) (hCW : C ≤ W) :
    Calls Try.prog 57 #[.slice (some ⟨T, 0, none⟩) R R, .int .i64 (C : Int)] w fun e w' => e = .returned (.int .i64 (((El.steps R f C).2 : Nat) : Int)) ∧ MW base w.heap.size T R (fun _ => W) (El.steps R f C).1 w' ∧ Below base w w' := by
  have hbt : base ≤ w.heap.size := Nat.le_trans h.1 (Nat.le_of_lt h.2.1)
  have HI : Hid (∀ c, El.Inv R c (El.steps R f c)) := fun c => El.inv_steps R f hb c
  have HM : Hid (MW base w.heap.size T R (fun _ => W) f w) := h
  have hTl : T < w.heap.size := h.2.1
  have hW6 : W ≤ 1000000 := by
    obtain ⟨_, _, _, B, h4⟩ := h
    exact (h4 0 hR0).2.1
  clear h
  go_enter Try.func57, Try.ntmps57
  go_wp2_with fail
  go_step3
  go_wp2_with fail
  refine (new_any w).mono ?_
  rintro e w1 ⟨rfl, hF, b1⟩
  have HM1 : Hid (MW base w.heap.size T R (fun _ => W) (El.steps R f 0).1 w1) := HM.out.below b1
  have hs1 : w.heap.size ≤ w1.heap.size := b1.size
  have hB1 : Below base w w1 := b1.mono hbt
  clear HM b1
  go_wp2_with fail
  go_step3
  go_wp2_with fail
  generalize hts : w.heap.size = top at *
  go_loopg [6, 11] C (fun g s6 s11 wx => ∃ c : Nat, c + g = C ∧ s11 = .int .i64 (c : Int) ∧ s6 = .int .i64 (((El.steps R f c).2 : Nat) : Int) ∧ (El.steps R f c).2 < R ∧ Hid (MW base top T R (fun _ => W) (El.steps R f c).1 wx) ∧ Keeps base top w1 wx)
  case atStart => exact ⟨0, by omega, rfl, rfl, hR0, HM1, Keeps.refl _ _ _⟩
  case round =>
    obtain ⟨c, hcg, rfl, rfl, hdR, hM, hK⟩ := hrel
    have hInv := HI.out c
    have HN : Hid (El.steps R f (c + 1) = El.step R c ((El.steps R f c).1, (El.steps R f c).2)) := rfl
    have HMs : Hid (MW base top T R (fun _ => W) (El.steps R f c).1 wr) := hM
    have HE : Hid (c = C → ((((El.steps R f c).2 : Nat) : Int) = (((El.steps R f C).2 : Nat) : Int)) ∧ MW base top T R (fun _ => W) (El.steps R f C).1 wr) := fun he => by subst he; exact ⟨rfl, hM.out⟩
    have HZ : Hid (∀ i, (El.steps R f c).2 ≤ i → i < R → ∀ j, j < c → (El.steps R f c).1 i j = 0) := hInv.zero
    have HBy : Hid (El.Byt (El.steps R f c).1) := hInv.byt
    clear hM hInv
    generalize hG : (El.steps R f c).1 = G at *
    generalize hd : (El.steps R f c).2 = d at *
    cases gk with
    | zero =>
      have hcz : ¬ ((c : Int) < (C : Int)) := by omega
      obtain ⟨E1, E2⟩ := HE.out (by omega)
      have E2' : Hid _ := E2
      clear E2 HE
      go_wp2_with fail
      (try rw [Exit.noGoto_ret])
      go_ret
      exact ⟨rfl, by rw [hts]; exact E2'.out, hB1.trans hK.1⟩
    | succ g =>
      have hcz : (c : Int) < (C : Int) := by omega
      obtain ⟨wo, hwo⟩ : ∃ wo, wo = wr := ⟨_, rfl⟩
      subst hwo
      go_wp2_with fail
      go_loopg [6, 8] (R - d) (fun g2 s6 s8 wy => ∃ k : Nat, k + g2 = R ∧ d ≤ k ∧ s6 = .int .i64 (d : Int) ∧ s8 = .int .i64 (k : Int) ∧ Hid (∀ m, d ≤ m → m < k → G m c = 0) ∧ wy = wo)
      case atStart => exact ⟨d, by omega, Nat.le_refl _, rfl, rfl, fun m h1 h2 => absurd h2 (by omega), rfl⟩
      case round =>
        obtain ⟨k, hkg, hdk, rfl, rfl, hzero, rfl⟩ := hrel
        cases gk with
        | zero =>
          have hkz : ¬ ((k : Int) < (R : Int)) := by omega
          have HS : Hid (El.steps R f (c + 1) = (G, d)) := by
            unfold Hid; rw [HN.out]; exact El.step_none R c d G (by omega) (fun m h1 h2 => hzero.out m h1 (by omega))
          go_wp2_with fail
          go_roundg g
          case measure => omega
          case rel => exact ⟨c + 1, by omega, by first | rfl | simp, by rw [HS.out], by rw [HS.out]; exact hdR, by rw [HS.out]; exact HMs, hK⟩
        | succ g2 =>
          have hkz : (k : Int) < (R : Int) := by omega
          obtain ⟨g0, cp0, q1, q2, q3, q4, q5, q6, _⟩ := HMs.out.row k (by omega) (by omega)
          have q5' := (q5 c (by omega)).1
          have hcW : (c : Int) < (W : Int) := by omega
          by_cases hz : G k c = 0
          · have z0 : ((G k c : Int) == 0) = true := by rw [hz]; rfl
            have hzero' : Hid (∀ m, d ≤ m → m < k + 1 → G m c = 0) := fun m h1 h2 => by
              by_cases hmk : m = k
              · subst hmk; exact hz
              · exact hzero.out m h1 (by omega)
            clear q5 hz
            generalize G k c = x at *
            go_wp2_with fail
            go_roundg g2
            case measure => omega
            case rel => exact ⟨k + 1, by omega, by omega, rfl, by first | rfl | simp, hzero', rfl⟩
          · have z0 : ((G k c : Int) == 0) = false := by rw [beq_eq_false_iff_ne]; omega
            obtain ⟨n, hn⟩ : ∃ n, k = d + n := ⟨k - d, by omega⟩
            clear q5
            have HS : Hid (El.steps R f (c + 1) = (El.gone R d c k G, d + 1)) := by
              unfold Hid; rw [HN.out]; exact El.step_at R c d k G (by omega) hdk hzero.out hz
            generalize hx : G k c = x at *
            subst hn
            rw [show ((d + n : Nat) : Int) = (d : Int) + (n : Int) by omega] at *
            go_wp2_with fail
            rw [show d + n + 1 - d = n + 1 by omega]
            refine (raise_any base top T R W d n (R - d) G wr HMs.out (by omega) hR (by omega) (by omega)).mono ?_
            rintro e w2 ⟨rfl, hM2, hK2⟩
            have K2 := hK.trans hK2
            have hF2 : Hid (Has w2 top FC 79) := K2.has hF (Nat.le_refl _)
            have hne2 : El.raiseF d (d + n) G d c ≠ 0 := by rw [El.raise_at, hx]; omega
            obtain ⟨g3, cp3, r1, r2, r3, r4, r5, r6, r7⟩ := hM2.row d hdR (by omega)
            have HC3 := makeOne_any top g3 W cp3 c (El.raiseF d (d + n) G d) w2 hF2.out r5 r6 (by omega) hne2 (by omega)
            have HQ3 : Hid (∀ W', RowW W' g3 W (fun j => Fld.mul (El.raiseF d (d + n) G d j) (Fld.inv (El.raiseF d (d + n) G d c))) → Keeps g3 (g3 + 1) w2 W' → MW base top T R (fun _ => W) (El.oneF d c (El.raiseF d (d + n) G)) W' ∧ Keeps base top w1 W') := fun W' h1 h2 => by
              refine ⟨r7 W' _ (h1.congr fun j _ => by unfold El.oneF; rw [if_pos rfl]) h2 (fun m _ hm j _ => by unfold El.oneF; rw [if_neg hm]), K2.trans (h2.mono r2 (by omega))⟩
            clear r5 r7 hM2 hK2 q1 q5' HMs
            go_wp2_with fail
            refine HC3.mono ?_
            rintro e w3 ⟨rfl, h31, h32⟩
            obtain ⟨hM3, K3⟩ := HQ3.out w3 h31 h32
            clear HC3 HQ3 h31 h32 r1
            obtain ⟨g4, cp4, s1, s2, s3, s4, s5, s6, s7⟩ := hM3.row d hdR (by omega)
            have HM3 : Hid (MW base top T R (fun _ => W) (El.oneF d c (El.raiseF d (d + n) G)) w3) := hM3
            clear s5 s7 hM3
            go_wp2_with fail
            refine (takeOff_any top g4 W cp4 c w3).mono ?_
            rintro e w4 ⟨bc, br, bf, rfl, t1, t2, t3, u1, u2, u3, b4⟩
            have hts3 : top ≤ w3.heap.size := Nat.le_trans hs1 K3.1.size
            have hz4 : ∀ j, j < c → El.oneF d c (El.raiseF d (d + n) G) d j = 0 := fun j hj => by
              unfold El.oneF
              rw [if_pos rfl, El.raise_at, HZ.out (d + n) (by omega) (by omega) j hj, Fld.zero_mul]
            have K4 : Keeps base top w1 w4 := K3.trans (Keeps.ofBelow b4 (by omega))
            have HC5 := eachOther_any base top T R W R c d top g4 cp4 bc br bf (El.oneF d c (El.raiseF d (d + n) G)) w4 (HM3.out.below b4) hdR (by omega) hR hz4 (K4.has hF (Nat.le_refl _)) u1 u2 u3 (Nat.le_refl _) (by omega) (by omega) (by omega) (cell_below b4 (by omega) s1)
            clear u1 u2 u3 b4 s1
            go_wp2_with fail
            refine HC5.mono ?_
            rintro e w5 ⟨rfl, hM5, hK5⟩
            have HM5 : Hid (MW base top T R (fun _ => W) (El.gone R d c (d + n) G) w5) := hM5
            have K5 := K4.trans hK5
            clear HC5 hM5 hK5 HM3
            by_cases hfull : d + 1 = R
            · have e0 : ((d : Int) + 1 == (R : Int)) = true := by rw [beq_iff_eq]; omega
              have HF : Hid (El.steps R f C = (El.gone R d c (d + n) G, d + 1)) := by
                unfold Hid
                rw [show C = (c + 1) + g by omega, El.steps_stop R f (c + 1) (by rw [HS.out]; exact hfull), HS.out]
              go_wp2_with fail
              (try rw [Exit.noGoto_ret])
              go_ret
              exact ⟨by rw [HF.out]; simp, by rw [hts, HF.out]; exact HM5.out, hB1.trans K5.1⟩
            · have e0 : ((d : Int) + 1 == (R : Int)) = false := by rw [beq_eq_false_iff_ne]; omega
              go_wp2_with fail
              go_roundg g
              case measure => omega
              case rel => exact ⟨c + 1, by omega, by first | rfl | simp, by rw [HS.out]; simp, by rw [HS.out]; show d + 1 < R; omega, by rw [HS.out]; exact HM5, K5⟩
end Go.Proofs.Ytfbjpgcgdhhfnaa
