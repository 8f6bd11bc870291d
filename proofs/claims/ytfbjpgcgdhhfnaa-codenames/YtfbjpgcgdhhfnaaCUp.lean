/- addUp: to each of some pieces the products of its row's numbers and other pieces are added. -/
import Derived.Test.YtfbjpgcgdhhfnaaCProd
import Derived.Deep.LoopGhost
namespace Go.Proofs.Ytfbjpgcgdhhfnaa
open Go.RowKit
/-- v tells R values, from a block that is not g -/
def Sls (w : World) (g : Nat) (v : Value) (R : Nat) (f : Nat → Value) : Prop := ∃ a cap, v = .slice a R cap ∧ (0 < R → ∃ T o, a = some ⟨T, o, none⟩ ∧ T ≠ g ∧ T < w.heap.size ∧ ∀ i, i < R → w.cell? ⟨T, o + i, none⟩ = some (f i))
theorem Sls.keeps {w w' : World} {g : Nat} {v : Value} {R : Nat} {f : Nat → Value} (h : Sls w g v R f) (hk : Keeps g (g + 1) w w') : Sls w' g v R f := by
  obtain ⟨a, cap, rfl, h⟩ := h
  refine ⟨a, cap, rfl, fun hp => ?_⟩
  obtain ⟨T, o, e, h1, h2, h3⟩ := h hp
  exact ⟨T, o, e, h1, Nat.lt_of_lt_of_le h2 hk.1.size, fun i hi => by rw [cell_of (keeps_block hk h1 h2)]; exact h3 i hi⟩
/-- i rows are done, and of the next one j products -/
def upF (F : Nat → Nat) (base z K : Nat) (m p : El.M) (i j : Nat) : Nat → Nat := fun n =>
  if base ≤ n then (if (n - base) / z < i then F n ^^^ El.xs K (fun l => Fld.mul (m ((n - base) / z) l) (p l ((n - base) % z))) else if (n - base) / z = i then F n ^^^ El.xs j (fun l => Fld.mul (m i l) (p l ((n - base) % z))) else F n) else F n
theorem upF_zero (F : Nat → Nat) (base z K : Nat) (m p : El.M) : upF F base z K m p 0 0 = F := by
  funext n; unfold upF
  split
  · rw [if_neg (Nat.not_lt_zero _)]; split
    · simp [El.xs]
    · rfl
  · rfl
theorem upF_row (F : Nat → Nat) (base z K : Nat) (m p : El.M) (i : Nat) : upF F base z K m p i K = upF F base z K m p (i + 1) 0 := by
  funext n; unfold upF
  split
  · by_cases h : (n - base) / z < i
    · rw [if_pos h, if_pos (by omega)]
    · rw [if_neg h]
      by_cases h2 : (n - base) / z = i
      · rw [if_pos h2, if_pos (by omega), h2]
      · rw [if_neg h2, if_neg (by omega)]; split
        · simp [El.xs]
        · rfl
  · rfl
theorem upF_step (F : Nat → Nat) (base z K M : Nat) (m p : El.M) (i j : Nat) (hz : 0 < z) : rowN M (addF (upF F base z K m p i j) (base + i * z) z (m i j) (p j)) = rowN M (upF F base z K m p i (j + 1)) := rowN_congr fun n _ => by
  unfold addF
  by_cases h : base + i * z ≤ n ∧ n < base + i * z + z
  · rw [if_pos h]
    obtain ⟨t, rfl⟩ : ∃ t, n = base + (i * z + t) := ⟨n - (base + i * z), by omega⟩
    have ht : t < z := by omega
    have e1 : base + (i * z + t) - base = i * z + t := by omega
    obtain ⟨e2, e3⟩ := at_div (i := i) ht
    rw [show base + (i * z + t) - (base + i * z) = t by omega]
    simp only [upF, e1, e2, e3, Nat.lt_irrefl, if_false, if_true, Nat.le_add_right, El.xs]
    rw [Nat.xor_assoc]
  · rw [if_neg h]
    unfold upF
    by_cases hb : base ≤ n
    · rw [if_pos hb, if_pos hb]
      have hne : (n - base) / z ≠ i := fun e => h (by
        have h1 := Nat.div_add_mod (n - base) z
        have h2 := Nat.mod_lt (n - base) hz
        rw [e, Nat.mul_comm] at h1
        omega)
      rw [if_neg hne, if_neg hne]
    · rw [if_neg hb, if_neg hb]
theorem upF_lt {F : Nat → Nat} {base z K : Nat} {m p : El.M} (hF : ∀ i, F i < 256) (i j : Nat) : ∀ n, upF F base z K m p i j n < 256 := fun n => by
  unfold upF
  split
  · split
    · exact Fld.xor_lt (hF _) (El.xs_lt (fun _ => Fld.mul_lt _ _) _)
    · split
      · exact Fld.xor_lt (hF _) (El.xs_lt (fun _ => Fld.mul_lt _ _) _)
      · exact hF _
  · exact hF _
theorem upF_low (F : Nat → Nat) (base z K : Nat) (m p : El.M) (i j n : Nat) (h : n < base) : upF F base z K m p i j n = F n := by unfold upF; rw [if_neg (by omega)]
/-- where the pieces lie that are added -/
def From (w : World) (g z base : Nat) (F : Nat → Nat) (gp op : Nat) (p : Nat → Nat) : Prop :=
  (gp ≠ g ∧ gp < w.heap.size ∧ ∀ j, j < z → w.cell? ⟨gp, op + j, none⟩ = some (.int .u8 (p j : Int))) ∨ (gp = g ∧ op + z ≤ base ∧ ∀ j, j < z → p j = F (op + j))
theorem beq_zero_nat (n : Nat) : ((n : Int) == 0) = decide (n = 0) := by
  by_cases h : n = 0
  · subst h; rfl
  · rw [decide_eq_false h, beq_eq_false_iff_ne]; omega
theorem addUp_none (vr vp : Value) (a : Option Addr) (c : Nat) (w : World) (hr : ∃ a n c, vr = .slice a n c) (hp : ∃ a n c, vp = .slice a n c) :
    Calls Try.prog 22 #[.slice a 0 c, vr, vp] w fun e w' => e = .returned (.tuple #[]) ∧ Below w.heap.size w w' := by
  obtain ⟨a1, n1, c1, rfl⟩ := hr
  obtain ⟨a2, n2, c2, rfl⟩ := hp
  go_enter Try.func22, Try.ntmps22
  go_wp2_with fail
  refine (new_any w).mono ?_
  rintro e w1 ⟨rfl, hF, b1⟩
  clear hF
  go_wp2_with fail
  go_loopg [14] 0 (fun g1 s14 wx => s14 = .int .i64 0 ∧ wx = w1)
  case atStart => exact ⟨rfl, rfl⟩
  case round =>
    obtain ⟨rfl, rfl⟩ := hrel
    go_wp2_with fail
    go_end0
    exact ⟨rfl, b1⟩
set_option maxRecDepth 20000 in
set_option maxHeartbeats 2000000 in
theorem addUp_some (g M z R K base T1 o1 cs T2 o2 c2 gm om cm : Nat) (F : Nat → Nat) (m : List (List Nat)) (gp op cp : Nat → Nat) (p : El.M) (w w0 : World) (hG : Has w g (U8s (rowN M F)) 5) (hFb : ∀ i, F i < 256) (hM : M ≤ 1000000) (hz : 0 < z) (hR : base + R * z ≤ M) (hR6 : R ≤ 1000000) (hK6 : K ≤ 1000000) (hR0 : 0 < R) (hK0 : 0 < K)
    (hs : T1 ≠ g ∧ T1 < w.heap.size ∧ ∀ i, i < R → w.cell? ⟨T1, o1 + i, none⟩ = some (.slice (some ⟨g, base + i * z, none⟩) z z)) (hm : Mat w0 (.slice (some ⟨gm, om, none⟩) R cm) m) (h0 : w0.heap.size ≤ g) (hb0 : Below w0.heap.size w0 w) (hml : m.length = R) (hmw : ∀ i, i < R → (m.getD i []).length = K)
    (hv : T2 ≠ g ∧ T2 < w.heap.size ∧ ∀ j, j < K → w.cell? ⟨T2, o2 + j, none⟩ = some (.slice (some ⟨gp j, op j, none⟩) z (cp j))) (hp : ∀ j, j < K → From w g z base F (gp j) (op j) (p j)) (hpb : El.Byt p) :
    Calls Try.prog 22 #[.slice (some ⟨T1, o1, none⟩) R cs, .slice (some ⟨gm, om, none⟩) R cm, .slice (some ⟨T2, o2, none⟩) K c2] w fun e w' => e = .returned (.tuple #[]) ∧ Has w' g (U8s (rowN M (upF F base z K (at2 m) p R 0))) 5 ∧ Keeps g (g + 1) w w' := by
  have hgl := hG.lt
  have hby := hm.byt
  have HS : Hid (∀ W, Keeps g (g + 1) w W → ∀ i, i < R → W.cell? ⟨T1, o1 + i, none⟩ = some (.slice (some ⟨g, base + i * z, none⟩) z z)) := fun W hk i hi => by
    rw [cell_of (keeps_block hk hs.1 hs.2.1)]; exact hs.2.2 i hi
  have HV : Hid (∀ W, Keeps g (g + 1) w W → ∀ j, j < K → W.cell? ⟨T2, o2 + j, none⟩ = some (.slice (some ⟨gp j, op j, none⟩) z (cp j))) := fun W hk i hi => by
    rw [cell_of (keeps_block hk hv.1 hv.2.1)]; exact hv.2.2 i hi
  have HM : Hid (∀ W, Keeps g (g + 1) w W → ∀ i, i < R → ∀ j, j < K → ∃ gi oi ci, W.cell? ⟨gm, om + i, none⟩ = some (.slice (some ⟨gi, oi, none⟩) K ci) ∧ W.cell? ⟨gi, oi + j, none⟩ = some (.int .u8 ((at2 m i j : Nat) : Int))) := fun W hk i hi j hj => by
    obtain ⟨gm', om', cm', em, _, hgm, hcm⟩ := (hm.below (hb0.trans (hk.1.mono h0))).some (by omega)
    simp only [Value.slice.injEq, Option.some.injEq, Addr.mk.injEq] at em
    obtain ⟨⟨rfl, rfl, _⟩, _, _⟩ := em
    obtain ⟨rr, k1, hrr⟩ := hcm i (by omega)
    obtain ⟨gi, oi, ci, rfl, _, hx8, hgi, hci⟩ := hrr.some (by rw [hmw i hi]; omega)
    rw [hmw i hi] at k1 hci
    exact ⟨gi, oi, ci, k1, hci j hj⟩
  have HPA : Hid (∀ W, Keeps g (g + 1) w W → ∀ i, i < R → ∀ j, j < K → PieceAt W g (base + i * z) z M (gp j) (op j) (upF F base z K (at2 m) p i j) (p j)) := fun W hk i hi j hj => by
    rcases hp j hj with ⟨h1, h2, h3⟩ | ⟨h1, h2, h3⟩
    · exact .inl ⟨h1, Nat.lt_of_lt_of_le h2 hk.1.size, fun t ht => by rw [cell_of (keeps_block hk h1 h2)]; exact h3 t ht⟩
    · have hmul : i * z ≤ R * z := Nat.mul_le_mul_right _ (by omega)
      exact .inr ⟨h1, by omega, .inl (by omega), fun t ht => by rw [h3 t ht, upF_low _ _ _ _ _ _ _ _ _ (by omega)]⟩
  have HFb := hid hFb
  have HBY := hid hby
  have HPB := hid hpb
  have HG := hid hG
  clear hp hmw hFb hby hpb hG hs hv hm hb0 hml
  go_enter Try.func22, Try.ntmps22
  go_wp2_with fail
  refine (new_any w).mono ?_
  rintro e w1 ⟨rfl, hF, b1⟩
  have K1 : Keeps g (g + 1) w w1 := Keeps.ofBelow b1 (by omega)
  have hG1 : Hid (Has w1 g (U8s (rowN M (upF F base z K (at2 m) p 0 0))) 5) := by
    unfold Hid; rw [upF_zero]; exact HG.out.below b1 hgl
  have hFw : Hid (Has w1 w.heap.size FC 79) := hF
  generalize hfb : w.heap.size = fb at *
  clear b1 hF HG
  go_wp2_with fail
  go_loopg [14] R (fun g1 s14 wx => ∃ i : Nat, i + g1 = R ∧ s14 = .int .i64 (i : Int) ∧ Hid (Has wx g (U8s (rowN M (upF F base z K (at2 m) p i 0))) 5) ∧ Keeps g (g + 1) w1 wx)
  case atStart => exact ⟨0, by omega, rfl, hG1, Keeps.refl _ _ _⟩
  case round =>
    obtain ⟨i, hig, rfl, hH, hKx⟩ := hrel
    clear hG1
    cases gk with
    | zero =>
      have hzz : ¬ ((i : Int) < (R : Int)) := by omega
      have hiR : i = R := by omega
      have HE : Hid (Has wr g (U8s (rowN M (upF F base z K (at2 m) p R 0))) 5) := by unfold Hid; rw [← hiR]; exact hH.out
      clear hH hiR
      go_wp2_with fail
      go_end0
      exact ⟨rfl, HE.out, K1.trans hKx⟩
    | succ g1 =>
      have hzz : (i : Int) < (R : Int) := by omega
      have hi : i < R := by omega
      have q1 := HS.out wr (K1.trans hKx) i hi
      obtain ⟨wo, hwo⟩ : ∃ wo, wo = wr := ⟨_, rfl⟩
      subst hwo
      obtain ⟨oo, hoo⟩ : ∃ oo, Hid (oo = base + i * z) := ⟨_, rfl⟩
      rw [← hoo.out] at q1
      go_wp2_with fail
      go_loopg [21] K (fun g2 s21 wx => ∃ j : Nat, j + g2 = K ∧ s21 = .int .i64 (j : Int) ∧ Hid (Has wx g (U8s (rowN M (upF F base z K (at2 m) p i j))) 5) ∧ Keeps g (g + 1) w1 wx)
      case atStart => exact ⟨0, by omega, rfl, hH, hKx⟩
      case round =>
        obtain ⟨j, hjg, rfl, hHj, hKj⟩ := hrel
        clear hH q1
        cases gk with
        | zero =>
          have hz2 : ¬ ((j : Int) < (K : Int)) := by omega
          have hjK : j = K := by omega
          have hHn : Hid (Has wr g (U8s (rowN M (upF F base z K (at2 m) p (i + 1) 0))) 5) := by
            unfold Hid; rw [← upF_row]
            have := hHj.out
            rw [hjK] at this
            exact this
          clear hHj hjK
          go_wp2_with fail
          go_roundg g1
          case measure => omega
          case rel => exact ⟨i + 1, by omega, by first | rfl | simp, hHn, hKj⟩
        | succ g2 =>
          have hz2 : (j : Int) < (K : Int) := by omega
          have hj : j < K := by omega
          have hKw := K1.trans hKj
          have q2 := HV.out wr hKw j hj
          obtain ⟨gi, oi, ci, k1, k2⟩ := HM.out wr hKw i hi j hj
          have l1 := HBY.out i j
          have hfb1 := hKj.hasNe hFw.out (by omega)
          have hfit : base + i * z + z ≤ M := by
            have hmul : (i + 1) * z ≤ R * z := Nat.mul_le_mul_right _ (by omega)
            rw [Nat.succ_mul] at hmul; omega
          have HHn : Hid (∀ W', Has W' g (U8s (rowN M (addF (upF F base z K (at2 m) p i j) (base + i * z) z (at2 m i j) (p j)))) 5 → Has W' g (U8s (rowN M (upF F base z K (at2 m) p i (j + 1)))) 5) := fun W' h => by
            rw [upF_step F base z K M (at2 m) p i j hz] at h; exact h
          have HCall := hid (addProducts_any fb g (base + i * z) z z (gp j) (op j) (cp j) M (at2 m i j) (upF F base z K (at2 m) p i j) (p j) wr hfb1 hHj.out (by omega) hfit hM (upF_lt HFb.out i j) l1 (fun t _ => HPB.out j t) (HPA.out wr hKw i hi j hj))
          rw [← hoo.out] at HHn HCall
          obtain ⟨tm, htm⟩ : ∃ tm, Hid (tm = at2 m i j) := ⟨_, rfl⟩
          rw [← htm.out] at HHn HCall k2 l1
          clear hHj hfb1 hfit
          go_wp2_with fail
          refine HCall.out.mono ?_
          rintro e w2 ⟨rfl, hH2, hK2⟩
          have HH2 := hid (HHn.out _ hH2)
          clear HHn hH2 HCall
          go_wp2_with fail
          go_roundg g2
          case measure => omega
          case rel => exact ⟨j + 1, by omega, by first | rfl | simp, HH2, hKj.trans hK2⟩
end Go.Proofs.Ytfbjpgcgdhhfnaa
