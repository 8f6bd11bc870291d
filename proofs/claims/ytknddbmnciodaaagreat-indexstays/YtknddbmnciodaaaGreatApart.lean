/- The contract of the program's apart: no two places of one pack have a byte in common. -/
import Derived.Test.YtknddbmnciodaaaGreatRow
import Derived.Shelf.SlSortCmp.NoneTotal
import Derived.Test.YtknddbmnciodaaaGreatAp1
import Derived.Test.YtknddbmnciodaaaGreatApp
import Derived.Test.YtknddbmnciodaaaGreatRise
namespace Go.Proofs.YtknddbmnciodaaaGreat
open Go.RowKit Go.Lib Go.Sort
open Ix
set_option linter.unusedVariables false
theorem ps_news {w : World} {g o : Nat} {P : List Pl} (h : Ps w (some ⟨g, o, none⟩) P) : ∀ j u, (P.flatMap pl3)[j]? = some u → w.cell? ⟨g, o + j, none⟩ = some u := fun j u hu => by
  have hj : j < P.length * 3 := by have := (List.getElem?_eq_some_iff.1 hu).1; rwa [flat_len pl3 3 (fun _ => rfl)] at this
  obtain ⟨g', o', e, _, h1, h2, h3⟩ := h (j / 3) (by omega)
  obtain ⟨rfl, rfl⟩ : g' = g ∧ o' = o := by simp at e; exact ⟨e.1.symm, e.2.symm⟩
  have f := flat_get pl3 3 (fun _ => rfl) P (j / 3) _ (get_of default (by omega))
  have hm : j % 3 = 0 ∨ j % 3 = 1 ∨ j % 3 = 2 := by omega
  rcases hm with hm | hm | hm
  · have h4 := f 0 _ rfl
    rw [show j / 3 * 3 + 0 = j by omega, hu] at h4
    rw [show o' + j = o' + j / 3 * 3 by omega, h1, Option.some.inj h4]
  · have h4 := f 1 _ rfl
    rw [show j / 3 * 3 + 1 = j by omega, hu] at h4
    rw [show o' + j = o' + j / 3 * 3 + 1 by omega, h2, Option.some.inj h4]
  · have h4 := f 2 _ rfl
    rw [show j / 3 * 3 + 2 = j by omega, hu] at h4
    rw [show o' + j = o' + j / 3 * 3 + 2 by omega, h3, Option.some.inj h4]
theorem one_pl (P : List Pl) : ∀ u ∈ P.flatMap pl3, u.oneCell' = true := by
  intro u hu
  obtain ⟨x, _, hx⟩ := List.mem_flatMap.1 hu
  simp [pl3] at hx
  rcases hx with rfl | rfl | rfl <;> rfl
theorem one_pl1 (x : Pl) : ∀ u ∈ pl3 x, u.oneCell' = true := by
  intro u hx
  simp [pl3] at hx
  rcases hx with rfl | rfl | rfl <;> rfl
theorem rw_ps {W : World} {b : Nat} {P : List Pl} (hb : b < W.heap.size) (h : Rw pl3 3 W b P) : Ps W (some ⟨b, 0, none⟩) P := fun j hj => by
  have f := h j _ (get_of default hj)
  refine ⟨b, 0, rfl, hb, ?_, ?_, ?_⟩
  · rw [Nat.zero_add]; exact (f 0 _ rfl).1
  · rw [Nat.zero_add]; exact (f 1 _ rfl).1
  · rw [Nat.zero_add]; exact (f 2 _ rfl).1
/-- a copy of places, and then sorted -/
theorem cloneP_any (P : List Pl) (A : Option Addr) (c : Nat) (hn : P.length ≤ 100000) (w : World) (hP : Ps w A P) :
    Calls Tryz.prog 47 #[.slice A P.length c] w fun e w' => ∃ B c', e = .returned (.slice B P.length c') ∧ P.length ≤ c' ∧ (P ≠ [] → ∃ g, B = some ⟨g, 0, none⟩ ∧ w.heap.size ≤ g ∧ g < w'.heap.size ∧ Rw pl3 3 w' g P) ∧ RowKit.Below w.heap.size w w' := by
  have hlen : (P.flatMap pl3).length = P.length * 3 := flat_len pl3 3 (fun _ => rfl) P
  by_cases hnil : P = []
  · subst hnil
    cases A with
    | none =>
      refine (AnyE.slices_Clone_nil Tryz.cloneP 0 c w).mono ?_
      rintro e w' ⟨rfl, rfl⟩
      exact ⟨none, 0, rfl, Nat.le_refl _, fun h => absurd rfl h, RowKit.Below.refl _ _⟩
    | some a =>
      refine (cloneZ_any a c w).mono ?_
      rintro e w' ⟨B, c', rfl, hb⟩
      exact ⟨B, c', rfl, Nat.zero_le _, fun h => absurd rfl h, hb⟩
  · obtain ⟨g0, o0, rfl, hg0, _⟩ := hP 0 (List.length_pos_iff.2 hnil)
    obtain ⟨i, hi, h1, h2, h3⟩ := info_parts info37z
    refine (AnyE.slices_Clone Tryz.cloneP i _ 3 32 hi h1 h2 h3 (by kernel_rfl) (by omega) Tryz.sizeOf24 g0 o0 P.length c (P.flatMap pl3) w hlen (by unfold maxLen; omega) (by omega) (ps_news hP) (one_pl P)).mono ?_
    rintro e w' ⟨v', rfl, hown, hne, hb⟩
    rcases hown.2 with ⟨rfl, h0⟩ | ⟨g, cap, cur, rfl, hg, hh, hc, _⟩
    · exact absurd h0 (by rw [List.length_eq_zero_iff]; exact hnil)
    · exact ⟨_, cap, rfl, hc, fun _ => ⟨g, rfl, hg, (Array.getElem?_eq_some_iff.1 hh).1, own_rw (f := pl3) (fun _ => rfl) hown⟩, hb⟩
theorem sortP_any (P : List Pl) (B : Option Addr) (c g : Nat) (hn : P.length ≤ 100000) (W : World) (h : P ≠ [] → B = some ⟨g, 0, none⟩ ∧ g < W.heap.size ∧ Rw pl3 3 W g P) :
    Calls Tryz.prog 48 #[.slice B P.length c, .func (.func 49) #[] #[]] W fun e w' => e = .returned (.tuple #[]) ∧ (∃ L, L.Perm P ∧ L.Pairwise (fun x y => Ix.ahead y x = false) ∧ Ps w' B L) ∧ Onl g W w' := by
  by_cases hnil : P = []
  · subst hnil
    refine (AnyF.slices_SortFunc_none (P := Tryz.prog) (ρ := Tryz.sortP_ren) { Tryz.sortP with } B c (.func (.func 49) #[] #[]) W).mono ?_
    rintro e w' ⟨rfl, rfl⟩
    exact ⟨rfl, ⟨[], List.Perm.refl _, List.Pairwise.nil, Ps.nil _ _⟩, Onl.refl _ _⟩
  · obtain ⟨rfl, hg, hr⟩ := h hnil
    have eg : ∀ args w, (callFunc 49 args).run Tryz.prog w = .ok (.enter 49 args) w := enters_of Tryz.func49 (by kernel_rfl) rfl
    have hcmp : CmpLays Tryz.prog 49 #[] pl3 3 cfP g 0 P.toArray.size W := fun m os dk _ x y => apart1_any x y _
    have hH := rw_holds (f := pl3) (fun _ => rfl) hr
    have hcon := AnyQ.slices_SortFunc Tryz.sortP 3 Tryz.isAgg24 Tryz.sizeOf24 pl3 (fun _ => rfl) (fun x v hv => one_pl1 x v hv) cfP swoP 49 #[] g 0 c P.toArray W eg hcmp hH hg (by rw [List.size_toArray]; omega)
    rw [List.size_toArray] at hcon
    refine hcon.mono ?_
    rintro e w' ⟨rfl, d', n, os, hp, hs, rfl⟩
    have hpl := perm_list (lt := ltOf cfP) (L := P) (d' := d') (by rw [List.size_toArray]; exact hp) (by rw [List.size_toArray]; exact hs)
    have hsz : d'.size = P.toArray.size := hp.1
    refine ⟨rfl, ⟨d'.toList, hpl.1, hpl.2.imp fun {x y} h => by rw [← ltP]; exact h, ?_⟩, onl_sort pl3 3 W g n d' os hg⟩
    have h1 := holdsK_sortWorldK_c pl3 3 W g 0 P.toArray d' n os hH hg hsz
    exact rw_ps (Nat.lt_of_lt_of_le hg (size_sortWorldK_c pl3 3 W g 0 n d' os)) (holds_rw (f := pl3) (fun _ => rfl) h1)
set_option maxHeartbeats 8000000 in
theorem apart_any (P : List Pl) (A : Option Addr) (c : Nat) (hn : P.length ≤ 100000) (hm : ∀ p ∈ P, mayP p) (w : World) (hP : Ps w A P) :
    Calls Tryz.prog 26 #[.slice A P.length c] w fun e w' => e = .returned (.bool (!comN P P.length)) ∧ RowKit.Below w.heap.size w w' := by
  have C1 := cloneP_any P A c hn w hP
  have HS2 := hid (fun (B : Option Addr) (c g : Nat) (W : World) h => sortP_any P B c g hn W h)
  go_enter Tryz.func26, Tryz.ntmps26
  go_wp2_with fail
  refine C1.mono ?_
  rintro e w1 ⟨B, c', rfl, hc', hB, b1⟩
  have HB1 := hid b1
  obtain ⟨g, hg1, hg2⟩ : ∃ g, w.heap.size ≤ g ∧ (P ≠ [] → B = some ⟨g, 0, none⟩ ∧ g < w1.heap.size ∧ Rw pl3 3 w1 g P) := by
    by_cases hnil : P = []
    · exact ⟨w.heap.size, Nat.le_refl _, fun h => absurd hnil h⟩
    · obtain ⟨g, e1, h1, h2, h3⟩ := hB hnil
      exact ⟨g, h1, fun _ => ⟨e1, h2, h3⟩⟩
  have C2 := HS2.out B c' g w1 hg2
  clear hB hg2 C1 HS2 hP b1
  go_wp2_with fail
  refine C2.mono ?_
  rintro e w2 ⟨rfl, ⟨L, hp, hs, hL⟩, ho⟩
  have HB := hid (HB1.out.trans (ho.below hg1 HB1.out.size))
  have HE := hid (side_com hm hp hs)
  have hll : L.length = P.length := hp.length_eq
  have HMY : Hid (∀ p ∈ L, mayP p) := hid (fun p h => hm p (hp.mem_iff.1 h))
  have HLL := hid hll
  have HC := hid hL
  clear C2 ho HB1 hg1 hp hs hm hL
  obtain ⟨m, hmm⟩ : ∃ m, m = P.length := ⟨_, rfl⟩
  rw [← hmm] at HLL hc' ⊢
  rw [← hmm] at hll
  have hnm : m ≤ 100000 := by omega
  clear hmm hn hll
  go_wp2_with fail
  go_loopw [11] (fun v11 wr => ∃ k : Nat, k ≤ m ∧ v11 = .int .i64 (k : Int) ∧ Hid (sideN L k = true) ∧ Hid (RowKit.Below w2.heap.size w2 wr)) (fun v11 _ => m - (intOf v11).toNat)
  case atStart => exact ⟨0, Nat.zero_le _, rfl, hid rfl, hid (RowKit.Below.refl _ _)⟩
  case round =>
    obtain ⟨k, hk, rfl, HR, HZ⟩ := hrel
    by_cases hlt : k < m
    · have hlt' : k < L.length := by rw [HLL.out]; exact hlt
      have j1 : (k : Int) < (m : Int) := by omega
      have j0 : (0 : Int) ≤ (k : Int) := by omega
      have wk : IntKind.i64.wrap ((k : Int) + 1) = ((k + 1 : Nat) : Int) := by rw [IntKind.wrap_i64]; omega
      by_cases h0 : k = 0
      · subst h0
        have HK : Hid (sideN L 1 = true) := hid (by simp [sideN])
        go_wp2_with fail
        go_quiet (fail)
        go_wp2_with fail
        go_roundw
        case rel => exact ⟨1, by omega, by rfl, HK, hid (below_draws' HZ.out _)⟩
        case measure => first | (simp [intOf]; done) | (simp [intOf]; omega)
      · have hk1 : k - 1 < L.length := by omega
        obtain ⟨g, o, rfl, hg, a1, a2, a3⟩ := ps_cell HC.out HZ.out hlt'
        obtain ⟨g', o', e, _, b1, b2, b3⟩ := ps_cell HC.out HZ.out hk1
        obtain ⟨rfl, rfl⟩ : g' = g ∧ o' = o := by simp at e; exact ⟨e.1.symm, e.2.symm⟩
        have HS : Hid (sideN L (k + 1) = !(decide ((L.getD (k - 1) default).pack = (L.getD k default).pack) && decide ((L.getD k default).at_ < (L.getD (k - 1) default).at_ + (L.getD (k - 1) default).len))) := hid (by rw [sideN, HR.out]; simp [h0])
        have wm : IntKind.i64.wrap ((k : Int) - 1) = ((k - 1 : Nat) : Int) := by rw [IntKind.wrap_i64]; omega
        have j2 : (0 : Int) < (k : Int) := by omega
        have j3 : ((k - 1 : Nat) : Int) < (m : Int) := by omega
        have j4 : (0 : Int) ≤ ((k - 1 : Nat) : Int) := by omega
        have j5 : 0 < k := by omega
        have mb := HMY.out _ (getP_mem hk1)
        unfold mayP at mb
        have wb : IntKind.i64.wrap ((L.getD (k - 1) default).at_ + (L.getD (k - 1) default).len) = (L.getD (k - 1) default).at_ + (L.getD (k - 1) default).len := by rw [IntKind.wrap_i64]; omega
        clear e mb hg hk1 h0
        generalize hq : L.getD (k - 1) default = q at *
        generalize hp : L.getD k default = p at *
        clear hp hq a3
        by_cases h1 : q.pack = p.pack
        · have q1 := str_eq h1
          rw [decide_eq_true h1] at HS
          clear h1
          generalize p.pack = x at *
          generalize q.pack = y at *
          by_cases h2 : p.at_ < q.at_ + q.len
          · rw [decide_eq_true h2] at HS
            go_wp2_with fail
            go_quiet (fail)
            go_wp2_with fail
            go_ret
            have h9 : sideN L L.length = false := by
              cases hb : sideN L L.length with
              | false => rfl
              | true =>
                have h8 : sideN L (k + 1) = false := HS.out
                have := sideN_iff.1 hb
                rw [(sideN_iff (n := k + 1)).2 (fun i hi => this i (by omega))] at h8
                cases h8
            exact ⟨by rw [← HE.out, h9]; rfl, HB.out.trans ((below_draws' HZ.out _).mono HB.out.size)⟩
          · rw [decide_eq_false h2] at HS
            go_wp2_with fail
            go_quiet (fail)
            go_wp2_with fail
            go_roundw
            case rel => exact ⟨k + 1, by omega, by rfl, HS, hid (below_draws' HZ.out _)⟩
            case measure => first | (simp [intOf]; done) | (simp [intOf]; omega)
        · have q1 := str_ne h1
          rw [decide_eq_false h1] at HS
          clear h1
          generalize p.pack = x at *
          generalize q.pack = y at *
          go_wp2_with fail
          go_quiet (fail)
          go_wp2_with fail
          go_roundw
          case rel => exact ⟨k + 1, by omega, by rfl, HS, hid (below_draws' HZ.out _)⟩
          case measure => first | (simp [intOf]; done) | (simp [intOf]; omega)
    · obtain rfl : m = k := by omega
      have j1 : ¬ ((m : Int) < (m : Int)) := by omega
      go_wp2_with fail
      go_ret
      exact ⟨by rw [← HE.out, HLL.out, HR.out]; rfl, HB.out.trans (HZ.out.mono HB.out.size)⟩
end Go.Proofs.YtknddbmnciodaaaGreat

