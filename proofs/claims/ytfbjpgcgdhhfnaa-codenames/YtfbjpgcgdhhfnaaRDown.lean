/- The document's down. -/
import Derived.Test.YtfbjpgcgdhhfnaaLaw1
import Derived.Test.YtfbjpgcgdhhfnaaEach
import Derived.Deep.LoopGhost
namespace Go.Proofs.Ytfbjpgcgdhhfnaa
open Go.RowKit
theorem OW.mw {base : Nat} {v : Value} {R : Nat} {Wd : Nat → Nat} {f : El.M} {w : World} (h : OW base v R Wd f w) (hR : 0 < R) : ∃ T cap, v = .slice (some ⟨T, 0, none⟩) R cap ∧ (R ≤ cap ∧ cap ≤ 9223372036854775807) ∧ MW base w.heap.size T R Wd f w := by
  rcases h with ⟨_, h0⟩ | ⟨T, cap, cur, h1, h2, h3, h4⟩
  · omega
  · exact ⟨T, cap, h1, ⟨h3.1, by have := h3.2.1; unfold maxLen at this; omega⟩, h4⟩
/-- the rows from p down to i have moved down by one -/
def Moved (T R p i : Nat) (wo w : World) : Prop := (∀ j, j < R → w.cell? ⟨T, j, none⟩ = wo.cell? ⟨T, if i < j ∧ j ≤ p then j - 1 else j, none⟩) ∧ (∀ j, j < R → w.frozen? ⟨T, j, none⟩ = false) ∧ Keeps T (T + 1) wo w
theorem Moved.start {base top T R W : Nat} {f : El.M} {w : World} (h : MW base top T R (fun _ => W) f w) (p : Nat) : Moved T R p p w w := by
  refine ⟨fun j hj => by rw [if_neg (by omega)], fun j hj => ?_, Keeps.refl _ _ _⟩
  obtain ⟨_, _, _, B, h4⟩ := h
  exact (h4 j hj).1
theorem Moved.step {T R p i : Nat} {wo w : World} (h : Moved T R p (i + 1) wo w) (hi : i + 1 ≤ p) (hp : p < R) {v : Value} (hv : wo.cell? ⟨T, i, none⟩ = some v) (hx : ∃ x, wo.cell? ⟨T, i + 1, none⟩ = some x) : w.cell? ⟨T, i, none⟩ = some v ∧ (∃ x, w.cell? ⟨T, i + 1, none⟩ = some x) ∧ w.frozen? ⟨T, i + 1, none⟩ = false ∧ Moved T R p i wo (w.setCell ⟨T, i + 1, none⟩ v) := by
  obtain ⟨h1, h2, h3⟩ := h
  have e1 : w.cell? ⟨T, i, none⟩ = some v := by rw [h1 i (by omega), if_neg (by omega)]; exact hv
  obtain ⟨x, hx⟩ := hx
  have e2 : w.cell? ⟨T, i + 1, none⟩ = some x := by rw [h1 (i + 1) (by omega), if_neg (by omega)]; exact hx
  refine ⟨e1, ⟨x, e2⟩, h2 _ (by omega), fun j hj => ?_, fun j hj => by rw [World.frozen?_setCell]; exact h2 j hj, h3.set (Nat.le_refl _) (Nat.lt_succ_self _) _⟩
  by_cases hji : j = i + 1
  · subst hji
    rw [World.cell?_setCell_same _ _ _ e2, if_pos (by omega), Nat.add_sub_cancel, hv]
  · rw [World.cell?_setCell_other _ _ _ _ (by simp only [ne_eq, Addr.mk.injEq]; omega), h1 j hj]
    by_cases h4 : i + 1 < j ∧ j ≤ p
    · rw [if_pos h4, if_pos (by omega)]
    · rw [if_neg h4, if_neg (by omega)]
theorem Moved.done {base top T R W d p : Nat} {f : El.M} {wo w : World} (h : Moved T R p d wo w) (hM : MW base top T R (fun _ => W) f wo) (hdp : d ≤ p) (hp : p < R) {v : Value} (hv : wo.cell? ⟨T, p, none⟩ = some v) :
    (∃ x, w.cell? ⟨T, d, none⟩ = some x) ∧ w.frozen? ⟨T, d, none⟩ = false ∧ MW base top T R (fun _ => W) (El.raiseF d p f) (w.setCell ⟨T, d, none⟩ v) ∧ Keeps T (T + 1) wo (w.setCell ⟨T, d, none⟩ v) ∧ (w.setCell ⟨T, d, none⟩ v).cell? ⟨T, d, none⟩ = some v := by
  obtain ⟨h1, h2, h3⟩ := h
  obtain ⟨_, ⟨y, hy⟩, _⟩ := hM.top d (by omega)
  have e2 : w.cell? ⟨T, d, none⟩ = some y := by rw [h1 d (by omega), if_neg (by omega)]; exact hy
  have hsz : (w.setCell ⟨T, d, none⟩ v).heap.size = w.heap.size := by simp [World.setCell]
  have K := h3.set (p := ⟨T, d, none⟩) (Nat.le_refl _) (Nat.lt_succ_self _) v
  refine ⟨⟨y, e2⟩, h2 d (by omega), hM.raise hdp hp (by rw [hsz]; exact h3.1.size) (fun j hj => ?_) (fun j hj => by rw [World.frozen?_setCell]; exact h2 j hj) (fun b hb hl => ?_), K, World.cell?_setCell_same _ _ _ e2⟩
  · unfold El.was
    by_cases hjd : j = d
    · subst hjd; rw [if_pos rfl, World.cell?_setCell_same _ _ _ e2, hv]
    · rw [if_neg hjd, World.cell?_setCell_other _ _ _ _ (by simp only [ne_eq, Addr.mk.injEq]; omega), h1 j hj]
  · by_cases hlt : b < T
    · exact K.1.block b hlt
    · exact K.2 b (by omega) hl
set_option maxRecDepth 20000 in
set_option maxHeartbeats 8000000 in
theorem refDown_any (v : Value) (m : List (List Nat)) (R W : Nat) (w : World) (h : Mat w v m) (hmR : m.length = R) (hR0 : 0 < R) (hR : R ≤ 1000) (hW0 : 0 < W) (hW : W ≤ 1000) (hmW : ∀ i, i < R → (m.getD i []).length = W) :
    Calls Try.prog 42 #[v] w fun e w' => ∃ T cap, e = .returned (.tuple #[.slice (some ⟨T, 0, none⟩) R cap, .int .i64 (((El.steps R (at2 m) W).2 : Nat) : Int)]) ∧ (R ≤ cap ∧ cap ≤ 9223372036854775807) ∧ MW w.heap.size w'.heap.size T R (fun _ => W) (El.steps R (at2 m) W).1 w' ∧ Below w.heap.size w w' := by
  have HX : Hid (∀ i x, x ∈ m.getD i [] → x < 256) := h.rows
  have hby := h.byt
  obtain ⟨g, o, cap, rfl, hml, hg, hrows⟩ := h.some (by omega)
  have HR := hid hrows
  have HI : Hid (∀ c, El.Inv R c (El.steps R (at2 m) c)) := fun c => El.inv_steps R (at2 m) hby c
  have HW : Hid (∀ i, i < R → wd m i = W) := fun i hi => hmW i hi
  have HWm := hid hmW
  have HF : Hid (∀ i j, at2 m i j = (m.getD i []).getD j 0) := fun _ _ => rfl
  obtain ⟨r0, k0, hr0⟩ := hrows 0 (by omega)
  obtain ⟨a0, cap0, hr0f, _⟩ := hr0
  rw [hmW 0 hR0] at hr0f
  subst hr0f
  rw [Nat.add_zero] at k0
  rw [hmR] at HR ⊢
  clear hrows hmW h hml hby
  have hb0 : (0 : Int) < (R : Int) := by omega
  go_enter Try.func42, Try.ntmps42
  go_wp2_with fail
  go_loopw [4, 5] (fun vo vi wr => ∃ k : Nat, k ≤ R ∧ vi = .int .i64 (k : Int) ∧ Hid (OW w.heap.size vo k (fun _ => W) (at2 m) wr) ∧ Below w.heap.size w wr) (fun _ vi _ => R - (intOf vi).toNat)
  case atStart => exact ⟨0, by omega, rfl, OW.nil _ _ _ _, Below.refl _ _⟩
  case round =>
    obtain ⟨k, hk, rfl, hO, hb⟩ := hrel
    by_cases hlt : k < R
    · obtain ⟨r, c, hr⟩ := HR.out k hlt
      have c1 := cell_below hb hg c
      have hr1 : Hid (∀ ob, Row8 (wr.alloc ob) r (m.getD k [])) := fun ob => (hr.below hb).below ((Below.refl _ _).alloc (Nat.le_refl _) _)
      have hxk := hid (HX.out k)
      have hnl := HWm.out k hlt
      have hFk := hid (HF.out k)
      have c1' : ∀ ob, (wr.alloc ob).cell? ⟨g, o + k, none⟩ = some r := fun ob => cell_below ((Below.refl _ _).alloc (Nat.le_refl _) _) (Nat.lt_of_lt_of_le hg hb.size) c1
      have d0 : (k : Int) < (R : Int) := by omega
      have hsz := hb.size
      clear c hr HR c1
      generalize m.getD k [] = lk at *
      go_wp2_with (first
        | (refine wpList_appF rfl (.tmp 24) (.tmp 28) rfl wr.heap.size _ _ lk W rfl (by exact Owns.fresh wr (Nat.le_refl _)) rfl (by exact hr1.out _) hnl (by omega) (by simp) ?_; intro ax cx w2 ho2 hb2; have hB2 : Below wr.heap.size wr w2 := ((Below.refl _ _).alloc (Nat.le_refl _) _).trans hb2; have hB3 : Below wr.heap.size wr (w2.alloc (.cells #[.slice ax W cx] 31)) := hB2.alloc hB2.size _)
        | (refine wpList_push (w0 := wr) rfl (.tmp 23) (.tmp 30) rfl w.heap.size _ k (fun _ => W) (at2 m) rfl hO.out hB3 hsz _ lk (by exact ho2.alloc _) hxk.out (by omega) hnl.symm (fun j _ => hFk.out j) (by omega) w2.heap.size 1 rfl (by exact Has.new _ _ _ _ rfl) ?_; intro v2 w3 hO3 hb3))
      exact ⟨⟨k + 1, by omega, rfl, hO3, (hb.trans (hB3.mono hsz)).trans hb3⟩, by simp [intOf]; omega⟩
    · obtain rfl : k = R := by omega
      obtain ⟨T, capT, hvo, hct, hM0⟩ := hO.out.mw hR0
      subst hvo
      have k0' := cell_below hb hg k0
      have HM0 := hid hM0
      have hTb : w.heap.size ≤ T := hM0.1
      have hTt : T < wr.heap.size := hM0.2.1
      obtain ⟨w1, hw1⟩ : ∃ w1, w1 = wr := ⟨_, rfl⟩
      subst hw1
      clear hO hM0 HR k0
      have hKB : Hid (∀ W', Keeps w.heap.size w1.heap.size w1 W' → W'.cell? ⟨g, o, none⟩ = some (.slice a0 W cap0)) := fun W' hK => cell_below hK.1 hg k0'
      have hW8 : (W : Int) ≤ 1000 := by omega
      generalize hbs : w.heap.size = base at *
      generalize htp : w1.heap.size = top at *
      clear k0'
      go_wp2_with fail
      go_loopg [6, 7] W (fun gg s6 s7 wx => ∃ c : Nat, c + gg = W ∧ s7 = .int .i64 (c : Int) ∧ s6 = .int .i64 (((El.steps k (at2 m) c).2 : Nat) : Int) ∧ Hid (MW base top T k (fun _ => W) (El.steps k (at2 m) c).1 wx) ∧ Keeps base top w1 wx)
      case atStart => exact ⟨0, by omega, rfl, rfl, HM0, Keeps.refl _ _ _⟩
      case round =>
        obtain ⟨c, hcg, rfl, rfl, hM, hK⟩ := hrel
        have q0 := hKB.out _ hK
        have hInv := HI.out c
        have hdR : (El.steps k (at2 m) c).2 ≤ k := hInv.le
        have HN : Hid (El.steps k (at2 m) (c + 1) = El.step k c ((El.steps k (at2 m) c).1, (El.steps k (at2 m) c).2)) := rfl
        have HE : Hid (c = W → ((((El.steps k (at2 m) c).2 : Nat) : Int) = (((El.steps k (at2 m) W).2 : Nat) : Int)) ∧ MW base top T k (fun _ => W) (El.steps k (at2 m) W).1 wr) := fun he => by subst he; exact ⟨rfl, hM.out⟩
        clear hInv HM0
        generalize hG : (El.steps k (at2 m) c).1 = G at *
        generalize hd : (El.steps k (at2 m) c).2 = d at *
        cases gk with
        | zero =>
          have hcz : ¬ ((c : Int) < (W : Int)) := by omega
          obtain ⟨E1, E2⟩ := HE.out (by omega)
          have E2' := hid E2
          clear E2 HE
          go_wp2_with fail
          go_ret2
          exact ⟨T, capT, rfl, hct, (E2'.out.mono E2'.out.2.2.1 (Nat.le_refl _)), hb.trans hK.1⟩
        | succ gg =>
          have hcz : (c : Int) < (W : Int) := by omega
          obtain ⟨wo, hwo⟩ : ∃ wo, wo = wr := ⟨_, rfl⟩
          subst hwo
          go_wp2_with fail
          go_loopg [8] (k - d) (fun g2 s8 wy => ∃ p : Nat, p + g2 = k ∧ d ≤ p ∧ s8 = .int .i64 (p : Int) ∧ Hid (∀ q, d ≤ q → q < p → G q c = 0) ∧ wy = wo)
          case atStart => exact ⟨d, by omega, Nat.le_refl _, rfl, fun q h1 h2 => absurd h2 (by omega), rfl⟩
          case round =>
            obtain ⟨p, hpg, hdp, rfl, hzero, rfl⟩ := hrel
            cases gk with
            | zero =>
              have hpz : ¬ ((p : Int) < (k : Int)) := by omega
              have hpe : ((p : Int) == (k : Int)) = true := by rw [beq_iff_eq]; omega
              have hpd : decide ((p : Int) < (k : Int)) = false := by rw [decide_eq_false_iff_not]; exact hpz
              have HS : Hid (El.steps k (at2 m) (c + 1) = (G, d)) := by
                unfold Hid; rw [HN.out]; exact El.step_none k c d G (by omega) (fun q h1 h2 => hzero.out q h1 (by omega))
              go_wp2_with fail
              go_roundg gg
              case measure => omega
              case rel => exact ⟨c + 1, by omega, by first | rfl | simp, by rw [HS.out], by rw [HS.out]; exact hM, hK⟩
            | succ g2 =>
              have hpz : (p : Int) < (k : Int) := by omega
              have hpd : decide ((p : Int) < (k : Int)) = true := by rw [decide_eq_true_iff]; exact hpz
              obtain ⟨gp, cpp, q1, q2, q3, q4, q5, q6, _⟩ := hM.out.row p (by omega) hW0
              have q5' := (q5 c (by omega)).1
              have HQ5 := hid q5
              by_cases hz : G p c = 0
              · have z0 : ((G p c : Int) == 0) = true := by rw [hz]; rfl
                have hzero' : Hid (∀ q, d ≤ q → q < p + 1 → G q c = 0) := fun q h1 h2 => by
                  by_cases hqp : q = p
                  · subst hqp; exact hz
                  · exact hzero.out q h1 (by omega)
                clear q5 hz HQ5
                generalize G p c = x at *
                go_wp2_with fail
                go_roundg g2
                case measure => omega
                case rel => exact ⟨p + 1, by omega, by omega, by first | rfl | simp, hzero', rfl⟩
              · have z0 : ((G p c : Int) == 0) = false := by rw [beq_eq_false_iff_ne]; omega
                have hpe : ((p : Int) == (k : Int)) = false := by rw [beq_eq_false_iff_ne]; omega
                have HS : Hid (El.steps k (at2 m) (c + 1) = (El.gone k d c p G, d + 1)) := by
                  unfold Hid; rw [HN.out]; exact El.step_at k c d p G (by omega) hdp hzero.out hz
                have hx256 : G p c < 256 := (q5 c (by omega)).2.2
                clear q5
                obtain ⟨x, hx⟩ : ∃ x, Hid (x = G p c) := ⟨_, rfl⟩
                rw [← hx.out] at q5' z0 hx256 hz
                obtain ⟨wp, hwp⟩ : ∃ wp, wp = wr := ⟨_, rfl⟩
                subst hwp
                go_wp2_with fail
                go_loopg [10] (p - d) (fun g3 s10 wy => ∃ i : Nat, d + g3 = i ∧ i ≤ p ∧ s10 = .int .i64 (i : Int) ∧ Hid (Moved T k p i wp wy))
                case atStart => exact ⟨p, by omega, by omega, rfl, Moved.start hM.out p⟩
                case round =>
                  obtain ⟨i, hig, hip, rfl, hMv⟩ := hrel
                  cases gk with
                  | zero =>
                    have hid0 : i = d := by omega
                    clear hig hip
                    subst hid0
                    obtain ⟨⟨y, m1⟩, m2, m3, m4, m5⟩ := hMv.out.done hM.out hdp (by omega) q1
                    have M3 := hid m3
                    have M4 := hid m4
                    have R6 : Hid (RowW (wr.setCell ⟨T, i, none⟩ (.slice (some ⟨gp, 0, none⟩) W cpp)) gp W (oneTo (G p) (Fld.inv x) 0)) := (m4.rowNe HQ5.out hW0 q4).congr fun j _ => by unfold oneTo; rw [if_neg (by omega)]
                    have e6 : Hid (∀ j, oneTo (G p) (Fld.inv x) 0 j = G p j) := fun j => by unfold oneTo; rw [if_neg (by omega)]
                    have cx6 : (wr.setCell ⟨T, i, none⟩ (.slice (some ⟨gp, 0, none⟩) W cpp)).cell? ⟨gp, c, none⟩ = some (.int .u8 (x : Int)) := by
                      have := (R6.out c (by omega)).1
                      rw [e6.out, ← hx.out] at this; exact this
                    have HIv : Hid (Ending.returned (.tuple #[.int .u8 ((if x = 0 then 0 else Fld.inv x : Nat) : Int), .bool (decide (x ≠ 0))]) = .returned (.tuple #[.int .u8 ((Fld.inv x : Nat) : Int), .bool true])) := by
                      unfold Hid; rw [if_neg hz, decide_eq_true hz]
                    have dd : decide ((i : Int) < (i : Int)) = false := by simp
                    have di : (i : Int) < (k : Int) := by omega
                    have hix := Fld.inv_lt x
                    obtain ⟨w6, hw6⟩ : ∃ w6, Hid (w6 = wr.setCell ⟨T, i, none⟩ (.slice (some ⟨gp, 0, none⟩) W cpp)) := ⟨_, rfl⟩
                    clear m3 m4 q1 hMv
                    go_wp2_with fail
                    rw [← hw6.out] at M3 M4 R6 cx6 m5 ⊢
                    refine (refInv_any x hx256 w6).mono ?_
                    rintro e w7 ⟨rfl, rfl⟩
                    rw [HIv.out]
                    obtain ⟨ix, hixe⟩ : ∃ ix, Hid (ix = Fld.inv x) := ⟨_, rfl⟩
                    rw [← hixe.out] at R6 hix ⊢
                    clear HIv e6 cx6
                    go_wp2_with fail
                    obtain ⟨w8, hw8⟩ : ∃ w8, w8 = w7 := ⟨_, rfl⟩
                    subst hw8
                    go_loopg [13] W (fun g5 s13 wy => ∃ j : Nat, j + g5 = W ∧ s13 = .int .i64 (j : Int) ∧ Hid (RowW wy gp W (oneTo (G p) ix j)) ∧ Keeps gp (gp + 1) w8 wy)
                    case atStart => exact ⟨0, by omega, rfl, R6, Keeps.refl _ _ _⟩
                    case round =>
                      obtain ⟨j, hjg, rfl, hR5, hK5⟩ := hrel
                      clear R6
                      cases gk with
                      | zero =>
                        have hjz : ¬ ((j : Int) < (W : Int)) := by omega
                        have hjW : j = W := by omega
                        have HM6 : Hid (MW base top T k (fun _ => W) (El.oneF i c (El.raiseF i p G)) wr ∧ Keeps base top w1 wr ∧ wr.cell? ⟨T, i, none⟩ = some (.slice (some ⟨gp, 0, none⟩) W cpp)) := by
                          obtain ⟨gq, cq, v1, v2, v3, v4, v5, v6, v7⟩ := M3.out.row i (by omega) hW0
                          have hgq : gq = gp := by
                            rw [m5] at v1
                            simp only [Option.some.injEq, Value.slice.injEq, Addr.mk.injEq] at v1
                            omega
                          subst hgq
                          have hTl : T < w8.heap.size := World.block_lt_of_cell? (h := m5)
                          refine ⟨v7 wr _ (hR5.out.congr fun q hq => ?_) hK5 (fun q _ hq j _ => by unfold El.oneF; rw [if_neg hq]), (hK.trans (M4.out.mono hTb (by omega))).trans (hK5.mono v2 (by omega)), ?_⟩
                          · unfold El.oneF oneTo
                            rw [if_pos rfl, El.raise_at, El.raise_at, ← hx.out, ← hixe.out, if_pos (by show q < j; rw [hjW]; exact hq)]
                          · by_cases hl : T < gq
                            · rw [cell_of (hK5.1.block T hl)]; exact m5
                            · rw [cell_of (hK5.2 T (by omega) hTl)]; exact m5
                        clear M3 M4 m5 hR5 hK5
                        obtain ⟨F1, hF1⟩ : ∃ F1, Hid (F1 = El.oneF i c (El.raiseF i p G)) := ⟨_, rfl⟩
                        rw [← hF1.out] at HM6
                        have HGo : Hid (El.gone k i c p G = El.offT i c k F1) := by unfold Hid; rw [hF1.out]; rfl
                        go_wp2_with fail
                        go_loopg [14] k (fun g6 s14 wy => ∃ q : Nat, q + g6 = k ∧ s14 = .int .i64 (q : Int) ∧ Hid (MW base top T k (fun _ => W) (El.offT i c q F1) wy ∧ Keeps base top w1 wy) ∧ wy.cell? ⟨T, i, none⟩ = some (.slice (some ⟨gp, 0, none⟩) W cpp))
                        case atStart => exact ⟨0, by omega, rfl, ⟨by rw [El.offT_zero]; exact HM6.out.1, HM6.out.2.1⟩, HM6.out.2.2⟩
                        case round =>
                          obtain ⟨q, hqg, rfl, hM6, hT6⟩ := hrel
                          clear HM6
                          cases gk with
                          | zero =>
                            have hqz : ¬ ((q : Int) < (k : Int)) := by omega
                            have hqk : q = k := by omega
                            have HFin : Hid (MW base top T k (fun _ => W) (El.steps k (at2 m) (c + 1)).1 wr ∧ Keeps base top w1 wr) := ⟨by rw [HS.out, HGo.out, ← hqk]; rw [hqk]; have := hM6.out.1; rw [hqk] at this; exact this, hM6.out.2⟩
                            have HSd : Hid ((((El.steps k (at2 m) (c + 1)).2 : Nat) : Int) = (i : Int) + 1) := by unfold Hid; rw [HS.out]; simp
                            clear hM6 hT6
                            go_wp2_with fail
                            go_roundg gg
                            case measure => omega
                            case rel => exact ⟨c + 1, by omega, by first | rfl | simp, by rw [HSd.out], HFin.out.1, HFin.out.2⟩
                          | succ g6 =>
                            have hqz : (q : Int) < (k : Int) := by omega
                            have hqk : q < k := by omega
                            obtain ⟨gq, cq, v1, v2, v3, v4, v5, v6, v7⟩ := hM6.out.1.row q hqk hW0
                            have c15 := (v5 c (by omega)).1
                            obtain ⟨wq, hwq⟩ : ∃ wq, wq = wr := ⟨_, rfl⟩
                            subst hwq
                            by_cases hqi : q = i
                            · have e0 : ((q : Int) != (i : Int)) = false := by simp; omega
                              have HM7 : Hid (MW base top T k (fun _ => W) (El.offT i c (q + 1) F1) wq ∧ Keeps base top w1 wq) := ⟨by rw [El.offT_succ, if_pos hqi]; exact hM6.out.1, hM6.out.2⟩
                              have hqi' := hid hqi
                              clear hM6 v5 v7 hqi
                              generalize El.offT i c q F1 q c = by0 at *
                              go_wp2_with fail
                              go_loopg [16] 0 (fun g7 s16 wy => s16 = .int .i64 0 ∧ wy = wq)
                              case atStart => exact ⟨rfl, rfl⟩
                              case round =>
                                obtain ⟨rfl, rfl⟩ := hrel
                                go_wp2_with fail
                                go_roundg g6
                                case measure => omega
                                case rel => exact ⟨q + 1, by omega, by first | rfl | simp, HM7, hT6⟩
                            · have e0 : ((q : Int) != (i : Int)) = true := by simp; omega
                              obtain ⟨g2', cp2, p1, p2, p3, p4, p5, p6, _⟩ := hM6.out.1.row i (by omega) hW0
                              have hgg : gq ≠ g2' := hM6.out.1.two q i hqk (by omega) hqi hW0 hW0 v1 p1
                              have hge : g2' = gp := by
                                rw [hT6] at p1
                                simp only [Option.some.injEq, Value.slice.injEq, Addr.mk.injEq] at p1
                                omega
                              rw [hge] at hgg p5
                              rw [offT_row] at c15
                              have hr7 : Hid (RowW wq gq W (F1 q)) := v5.congr fun j _ => (offT_row i c q F1 j).symm
                              have hs7 : Hid (RowW wq gp W (F1 i)) := p5.congr fun j _ => (offT_d i c q F1 j).symm
                              have hb256 : F1 q c < 256 := (hr7.out c (by omega)).2.2
                              have R70 : Hid (RowW wq gq W (offTo (F1 q) (F1 i) 0 (F1 q c) 0)) := hr7.out.congr fun j _ => by unfold offTo; rw [if_neg (by omega)]
                              have hgl : gq < wq.heap.size := rowW_lt hr7.out hW0
                              have hTl : T < wq.heap.size := World.block_lt_of_cell? (h := hT6)
                              have HQ7 : Hid (∀ W', RowW W' gq W (offTo (F1 q) (F1 i) 0 (F1 q c) W) → Keeps gq (gq + 1) wq W' → (MW base top T k (fun _ => W) (El.offT i c (q + 1) F1) W' ∧ Keeps base top w1 W') ∧ W'.cell? ⟨T, i, none⟩ = some (.slice (some ⟨gp, 0, none⟩) W cpp)) := fun W' h1 h2 => by
                                refine ⟨⟨v7 W' _ (h1.congr fun j hj => ?_) h2 (fun q' _ hq' j _ => offT_more i c q q' F1 hq' j), hM6.out.2.trans (h2.mono v2 (by omega))⟩, ?_⟩
                                · unfold El.offT offTo
                                  rw [if_pos ⟨by omega, hqi⟩, if_pos ⟨by omega, hj⟩, Fld.mul_comm]
                                · by_cases hl : T < gq
                                  · rw [cell_of (h2.1.block T hl)]; exact hT6
                                  · rw [cell_of (h2.2 T (by omega) hTl)]; exact hT6
                              obtain ⟨by0, hby0⟩ : ∃ by0, Hid (by0 = F1 q c) := ⟨_, rfl⟩
                              rw [← hby0.out] at c15 hb256 R70 HQ7
                              clear v5 v7 p5 p1 hM6
                              go_wp2_with fail
                              go_loopg [16] W (fun g7 s16 wy => ∃ j : Nat, j + g7 = W ∧ s16 = .int .i64 (j : Int) ∧ Hid (RowW wy gq W (offTo (F1 q) (F1 i) 0 by0 j)) ∧ Keeps gq (gq + 1) wq wy)
                              case atStart => exact ⟨0, by omega, rfl, R70, Keeps.refl _ _ _⟩
                              case round =>
                                obtain ⟨j, hjg7, rfl, hR7, hK7⟩ := hrel
                                clear R70
                                cases gk with
                                | zero =>
                                  have hj7 : decide ((j : Int) < (W : Int)) = false := by rw [decide_eq_false_iff_not]; omega
                                  have hjW7 : j = W := by omega
                                  obtain ⟨A1, A2⟩ := HQ7.out wr (by have := hR7.out; rw [hjW7] at this; exact this) hK7
                                  have A1' := hid A1
                                  clear A1 hR7 hK7
                                  go_wp2_with fail
                                  go_roundg g6
                                  case measure => omega
                                  case rel => exact ⟨q + 1, by omega, by first | rfl | simp, A1', A2⟩
                                | succ g7 =>
                                  have hj7 : decide ((j : Int) < (W : Int)) = true := by rw [decide_eq_true_iff]; omega
                                  have hjW7 : j < W := by omega
                                  have e1 : offTo (F1 q) (F1 i) 0 by0 j j = F1 q j := by unfold offTo; rw [if_neg (by omega)]
                                  have hgl1 : gq < wr.heap.size := Nat.lt_of_lt_of_le hgl hK7.1.size
                                  have hsr := hK7.rowNe hs7.out hW0 (Ne.symm hgg)
                                  have hT7 : wr.heap[T]? = wq.heap[T]? := by
                                    by_cases hl : T < gq
                                    · exact hK7.1.block T hl
                                    · exact hK7.2 T (by omega) hTl
                                  have hTq : wr.cell? ⟨T, q, none⟩ = some (.slice (some ⟨gq, 0, none⟩) W cq) := by rw [cell_of hT7]; exact v1
                                  have l1 : F1 q j < 256 := (hr7.out j hjW7).2.2
                                  have l2 : F1 i j < 256 := (hs7.out j hjW7).2.2
                                  have l3 := Fld.mul_lt by0 (F1 i j)
                                  have HCs : Hid (∀ W', Below wr.heap.size wr W' → W'.cell? ⟨T, 0 + q, none⟩ = some (.slice (some ⟨gq, 0, none⟩) W cq) ∧ W'.cell? ⟨gq, 0 + j, none⟩ = some (.int .u8 (F1 q j : Int)) ∧ W'.cell? ⟨gp, 0 + j, none⟩ = some (.int .u8 (F1 i j : Int))) := fun W' hb => by
                                    rw [Nat.zero_add, Nat.zero_add]
                                    have h0 := (hR7.out j hjW7).1
                                    rw [e1] at h0
                                    exact ⟨cell_below hb (World.block_lt_of_cell? (h := hTq)) hTq, cell_below hb hgl1 h0, cell_below hb (rowW_lt hsr hW0) (hsr j hjW7).1⟩
                                  have HLs : Hid (∀ W', Below wr.heap.size wr W' → W'.cell? ⟨gq, 0 + j, none⟩ = some (.int .u8 (F1 q j : Int)) ∧ W'.frozen? ⟨gq, 0 + j, none⟩ = false ∧ RowW (W'.setCell ⟨gq, 0 + j, none⟩ (.int .u8 ((F1 q j ^^^ Fld.mul by0 (F1 i j) : Nat) : Int))) gq W (offTo (F1 q) (F1 i) 0 by0 (j + 1)) ∧ Keeps gq (gq + 1) wq (W'.setCell ⟨gq, 0 + j, none⟩ (.int .u8 ((F1 q j ^^^ Fld.mul by0 (F1 i j) : Nat) : Int)))) := fun W' hb => by
                                    have hR' := hR7.out.of (hb.block gq hgl1)
                                    have h0 := hR' j hjW7
                                    rw [e1] at h0
                                    rw [Nat.zero_add]
                                    refine ⟨h0.1, h0.2.1, hR'.set j _ hjW7 (Fld.xor_lt l1 l3) ?_ (fun q' _ hq' => (offTo_set (F1 q) (F1 i) 0 by0 j (Nat.zero_le _)).2 q' hq'), (hK7.trans (Keeps.ofBelow hb (by omega))).set (Nat.le_refl _) (Nat.lt_succ_self _) _⟩
                                    rw [(offTo_set (F1 q) (F1 i) 0 by0 j (Nat.zero_le _)).1, Fld.mul_comm]
                                  clear e1 hsr hT7 hTq
                                  go_wp2_with fail
                                  refine wp_region_last_lit (by kernel_rfl) 130 (by kernel_rfl) (by simp) (by simp) (fun W' => Below wr.heap.size wr W') (vals ([.slice (some ⟨T, 0, none⟩) k capT, .int .i64 (q : Int), .pointer (some ⟨T, 0 + q, none⟩), .slice (some ⟨gq, 0, none⟩) W cq, .int .i64 (j : Int), .slice (some ⟨T, 0, none⟩) k capT, .int .i64 (q : Int), .pointer (some ⟨T, 0 + q, none⟩), .slice (some ⟨gq, 0, none⟩) W cq, .int .i64 (j : Int), .pointer (some ⟨gq, 0 + j, none⟩), .int .u8 (F1 q j : Int), .int .u8 (by0 : Int), .slice (some ⟨gp, 0, none⟩) W cpp, .int .i64 (j : Int), .pointer (some ⟨gp, 0 + j, none⟩), .int .u8 (F1 i j : Int), .int .u8 ((Fld.mul by0 (F1 i j) : Nat) : Int), .int .u8 ((F1 q j ^^^ Fld.mul by0 (F1 i j) : Nat) : Int), .pointer (some ⟨gq, 0 + j, none⟩)] : List Value)) (Below.refl _ _).drew
                                    ⟨fun a' W' hC hF => st_val 130 _ rfl (rn_move rfl (hF 4 (by decide))) hC,
                                     fun a' W' hC hF => st_val 131 _ rfl (rn_move rfl (hF 14 (by decide))) hC,
                                     fun a' W' hC hF => st_val 132 _ rfl (rn_at46 rfl (hF 130 (by decide)) (hF 131 (by decide)) hqk) hC,
                                     fun a' W' hC hF => st_val 133 _ rfl (rn_load31 rfl (hF 132 (by decide)) (HCs.out W' hC).1) hC,
                                     fun a' W' hC hF => st_val 134 _ rfl (rn_move rfl (hF 16 (by decide))) hC,
                                     fun a' W' hC hF => st_val 135 _ rfl (rn_move rfl (hF 4 (by decide))) hC,
                                     fun a' W' hC hF => st_val 136 _ rfl (rn_move rfl (hF 14 (by decide))) hC,
                                     fun a' W' hC hF => st_val 137 _ rfl (rn_at46 rfl (hF 135 (by decide)) (hF 136 (by decide)) hqk) hC,
                                     fun a' W' hC hF => st_val 138 _ rfl (rn_load31 rfl (hF 137 (by decide)) (HCs.out W' hC).1) hC,
                                     fun a' W' hC hF => st_val 139 _ rfl (rn_move rfl (hF 16 (by decide))) hC,
                                     fun a' W' hC hF => st_val 140 _ rfl (rn_at31 rfl (hF 138 (by decide)) (hF 139 (by decide)) hjW7) hC,
                                     fun a' W' hC hF => st_val 141 _ rfl (rn_load5 rfl (hF 140 (by decide)) (HCs.out W' hC).2.1) hC,
                                     fun a' W' hC hF => st_val 142 _ rfl (rn_move rfl (hF 15 (by decide))) hC,
                                     fun a' W' hC hF => st_val 143 _ rfl (rn_move rfl (hF 9 (by decide))) hC,
                                     fun a' W' hC hF => st_val 144 _ rfl (rn_move rfl (hF 16 (by decide))) hC,
                                     fun a' W' hC hF => st_val 145 _ rfl (rn_at31 rfl (hF 143 (by decide)) (hF 144 (by decide)) hjW7) hC,
                                     fun a' W' hC hF => st_val 146 _ rfl (rn_load5 rfl (hF 145 (by decide)) (HCs.out W' hC).2.2) hC,
                                     fun a' W' hC hF => st_call 147 _ 26 _ rfl (rn_call2 rfl rfl (hF 142 (by decide)) (hF 146 (by decide)) (enter26 _)) ((refMul_any by0 (F1 i j) hb256 l2 W').mono fun e w'' h => ⟨h.1, by rw [h.2]; exact hC⟩),
                                     fun a' W' hC hF => st_val 148 _ rfl (rn_xor rfl (hF 141 (by decide)) (hF 147 (by decide)) l1 l3) hC,
                                     fun a' W' hC hF => st_val 149 _ rfl (rn_at31 rfl (hF 133 (by decide)) (hF 134 (by decide)) hjW7) hC,
                                     ?_⟩
                                  intro W' hC
                                  generalize hA : puts _ _ _ _ = A
                                  have hx1 : A.eval (.tmp 149) = .pointer (some ⟨gq, 0 + j, none⟩) := by rw [← hA]; exact ev_puts 20 19 rfl (by simp) (by decide)
                                  have hy1 : A.eval (.tmp 148) = .int .u8 ((F1 q j ^^^ Fld.mul by0 (F1 i j) : Nat) : Int) := by rw [← hA]; exact ev_puts 20 18 rfl (by simp) (by decide)
                                  refine st_store rfl (rn_store5 rfl hx1 hy1 (HLs.out W' hC).1 (HLs.out W' hC).2.1) ?_
                                  rw [← hA]
                                  clear hx1 hy1 hA A
                                  have HL1 := HLs.out W' hC
                                  rw [Nat.zero_add] at HL1
                                  have HL' : Hid _ := HL1
                                  clear HL1
                                  simp only [List.length_cons, List.length_nil, Nat.reduceAdd, Nat.reduceSub, puts, Act.put, vals, List.setIfInBounds_toArray, List.set_cons_succ, List.set_cons_zero, List.getD_cons_succ, List.getD_cons_zero]
                                  go_wp2_with fail
                                  go_roundg g7
                                  case measure => omega
                                  case rel => exact ⟨j + 1, by omega, by first | rfl | simp, HL'.out.2.2.1, HL'.out.2.2.2⟩
                      | succ g5 =>
                        have hjz : (j : Int) < (W : Int) := by omega
                        have hjW : j < W := by omega
                        have z1 := (hR5.out j hjW).1
                        have z2 := (hR5.out j hjW).2.1
                        have e1 : oneTo (G p) ix j j = G p j := by unfold oneTo; rw [if_neg (by omega)]
                        rw [e1] at z1
                        have hGj : G p j < 256 := by have := (hR5.out j hjW).2.2; rw [e1] at this; exact this
                        have HR5' : Hid (RowW (wr.setCell ⟨gp, j, none⟩ (.int .u8 ((Fld.mul (G p j) ix : Nat) : Int))) gp W (oneTo (G p) ix (j + 1))) := hR5.out.set j _ hjW (Fld.mul_lt _ _) (oneTo_set (G p) ix j).1 (fun q _ hq => (oneTo_set (G p) ix j).2 q hq)
                        have HK5' : Keeps gp (gp + 1) w8 (wr.setCell ⟨gp, j, none⟩ (.int .u8 ((Fld.mul (G p j) ix : Nat) : Int))) := hK5.set (Nat.le_refl _) (Nat.lt_succ_self _) _
                        clear e1 m5
                        go_wp2_with fail
                        refine (refMul_any (G p j) ix hGj hix _).mono ?_
                        rintro e w9 ⟨rfl, rfl⟩
                        generalize Fld.mul (G p j) ix = y at *
                        go_wp2_with fail
                        go_roundg g5
                        case measure => omega
                        case rel => exact ⟨j + 1, by omega, by first | rfl | simp, HR5', HK5'⟩
                  | succ g3 =>
                    obtain ⟨i', hi'⟩ : ∃ i', i = i' + 1 := ⟨i - 1, by omega⟩
                    obtain ⟨ga, cpa, y1, _⟩ := hM.out.row i' (by omega) hW0
                    obtain ⟨_, y2, _⟩ := hM.out.top (i' + 1) (by omega)
                    rw [hi'] at hMv
                    obtain ⟨f1, ⟨xv, f2⟩, f3, f4⟩ := hMv.out.step (by omega) (by omega) y1 y2
                    rw [← hi'] at f2 f3 f4
                    have F4 := hid f4
                    have d1 : decide ((d : Int) < (i : Int)) = true := by rw [decide_eq_true_iff]; omega
                    have d2 : (i : Int) - 1 = (i' : Int) := by omega
                    have d3 : (i : Int) < (k : Int) := by omega
                    have d4 : (i' : Int) < (k : Int) := by omega
                    have hi'2 := hid hi'
                    clear f4 y1 y2 hi' hMv
                    go_wp2_with fail
                    go_roundg g3
                    case measure => omega
                    case rel => exact ⟨i', by have := hi'2.out; omega, by have := hi'2.out; omega, by first | rfl | simp, F4⟩
end Go.Proofs.Ytfbjpgcgdhhfnaa
