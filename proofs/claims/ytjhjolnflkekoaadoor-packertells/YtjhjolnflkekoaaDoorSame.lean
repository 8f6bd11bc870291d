/- The contract of the document's Same, of packs that are alike. -/
import Derived.Test.YtjhjolnflkekoaaDoorBackI
import Derived.BigQuiet
namespace Go.Proofs.YtjhjolnflkekoaaDoor
open Go.RowKit Go.Maps
open Pk
set_option linter.unusedVariables false
set_option maxRecDepth 20000 in
set_option maxHeartbeats 4000000 in
theorem same_any (M N : List (List ByteArray × Value × Value)) (lo lo' : Nat) (A B : Option Addr) (ca cb : Nat) (w : World) (hM : Rks w lo (.slice A M.length ca) M) (hN : Rks w lo' (.slice B N.length cb) N) (he : M.map (·.1) = N.map (·.1)) (hl : M.length ≤ 100000) (hp : ∀ x ∈ M, x.1.length ≤ 100000) :
    Calls Tryd.prog 11 #[.slice A M.length ca, .slice B N.length cb] w fun e w' => e = .returned (.bool true) ∧ Below w.heap.size w w' := by
  obtain ⟨n, hn⟩ : ∃ n, n = M.length := ⟨_, rfl⟩
  have hn2 : n = N.length := by have := congrArg List.length he; simp at this; omega
  have HN := hid hn
  have HN2 := hid hn2
  have HM := hid hM
  have HR := hid hN
  have HE := hid he
  have HP := hid hp
  rw [← hn] at hl HM ⊢
  rw [← hn2] at HR ⊢
  clear hn hn2 hM hN he hp
  go_enter Tryd.func11, Tryd.ntmps11
  go_wp2_with fail
  go_loopw [5, 6, 7] (fun v5 _ _ wr => ∃ i : Nat, i ≤ n ∧ v5 = .int .i64 (i : Int) ∧ Hid (Below w.heap.size w wr)) (fun v5 _ _ _ => n - (intOf v5).toNat)
  case atStart => exact ⟨0, Nat.zero_le _, rfl, Below.refl _ _⟩
  case round =>
    obtain ⟨i, hi, rfl, HB⟩ := hrel
    by_cases hlt : i < n
    · obtain ⟨x, hx⟩ : ∃ x, M[i]? = some x := ⟨_, List.getElem?_eq_getElem (by rw [← HN.out]; exact hlt)⟩
      obtain ⟨y, hy⟩ : ∃ y, N[i]? = some y := ⟨_, List.getElem?_eq_getElem (by rw [← HN2.out]; exact hlt)⟩
      have hxy : x.1 = y.1 := by
        have h1 : (M.map (·.1))[i]? = some x.1 := by rw [List.getElem?_map, hx]; rfl
        have h2 : (N.map (·.1))[i]? = some y.1 := by rw [List.getElem?_map, hy]; rfl
        rw [HE.out, h2] at h1
        exact (Option.some.inj h1).symm
      have hmx := List.mem_of_getElem? hx
      have hmy := List.mem_of_getElem? hy
      obtain ⟨gA, eA, _, hgA, a0, a1, a2, a3⟩ := HM.out.cells i x hx
      obtain ⟨gB, eB, _, hgB, b0, b1, b2, b3⟩ := HR.out.cells i y hy
      subst eA eB
      have hm := HP.out x hmx
      have ra := HM.out.ra x hmx
      have rb := HM.out.rb x hmx
      have sa := HR.out.ra y hmy
      have sb := HR.out.rb y hmy
      clear hx hy hmx hmy
      obtain ⟨p, v1, v2⟩ := x
      obtain ⟨q, u1, u2⟩ := y
      cases hxy
      obtain ⟨A1, c1, e1⟩ := own_slice ra
      obtain ⟨A2, c2, e2⟩ := own_slice rb
      obtain ⟨B1, d1, e3⟩ := own_slice sa
      obtain ⟨B2, d2, e4⟩ := own_slice sb
      simp only at e1 e2 e3 e4 a0 a1 a2 a3 b0 b1 b2 b3 hm ra rb sa sb
      subst e1 e2 e3 e4
      have HRA := hid ra
      have HRB := hid rb
      have HSA := hid sa
      have HSB := hid sb
      obtain ⟨m, hmm⟩ : ∃ m, m = p.length := ⟨_, rfl⟩
      have HMM := hid hmm
      rw [← hmm] at a2 a3 b2 b3 hm
      clear ra rb sa sb hmm
      have i1 : (i : Int) < (n : Int) := by omega
      have i0 : (0 : Int) ≤ (i : Int) := by omega
      have wi : IntKind.i64.wrap ((i : Int) + 1) = ((i + 1 : Nat) : Int) := by rw [IntKind.wrap_i64]; omega
      have hi1 : i + 1 ≤ n := hlt
      have HX : Hid (∀ W, Below w.heap.size w W → W.cell? ⟨gA, i * 4 + 2, none⟩ = some (.slice A1 m c1) ∧ W.cell? ⟨gA, i * 4 + 3, none⟩ = some (.slice A2 m c2) ∧ W.cell? ⟨gB, i * 4 + 2, none⟩ = some (.slice B1 m d1) ∧ W.cell? ⟨gB, i * 4 + 3, none⟩ = some (.slice B2 m d2)) := hid fun W hW => by
        have f : ∀ g o v, g < w.heap.size → w.cell? ⟨g, o, none⟩ = some v → W.cell? ⟨g, o, none⟩ = some v := fun g o v hg hc => (hW.cell (p := ⟨g, o, none⟩) hg).trans hc
        exact ⟨f _ _ _ hgA a2, f _ _ _ hgA a3, f _ _ _ hgB b2, f _ _ _ hgB b3⟩
      have HT : Hid (∀ W, Below w.heap.size w W → ∀ k, k < m → ∃ g h, A1 = some ⟨g, 0, none⟩ ∧ B1 = some ⟨h, 0, none⟩ ∧ W.cell? ⟨g, k, none⟩ = some (.string (dg (p.getD k ⟨#[]⟩))) ∧ W.cell? ⟨h, k, none⟩ = some (.string (dg (p.getD k ⟨#[]⟩)))) := hid fun W hW k hk => by
        rw [HMM.out] at hk
        obtain ⟨g, e1, _, _, t1⟩ := row_text (own_below HRA.out hW (Nat.le_refl _)) k hk
        obtain ⟨h, e2, _, _, t2⟩ := row_text (own_below HSA.out hW (Nat.le_refl _)) k hk
        exact ⟨g, h, e1, e2, t1, t2⟩
      have HU : Hid (∀ W, Below w.heap.size w W → ∀ k, k < m → ∃ g h, A2 = some ⟨g, 0, none⟩ ∧ B2 = some ⟨h, 0, none⟩ ∧ W.cell? ⟨g, k * 3, none⟩ = some (.string (dg (pb p))) ∧ W.cell? ⟨g, k * 3 + 1, none⟩ = some (.int .i64 (pat p k : Int)) ∧ W.cell? ⟨g, k * 3 + 2, none⟩ = some (.int .i64 ((p.getD k ⟨#[]⟩).size : Int)) ∧ W.cell? ⟨h, k * 3, none⟩ = some (.string (dg (pb p))) ∧ W.cell? ⟨h, k * 3 + 1, none⟩ = some (.int .i64 (pat p k : Int)) ∧ W.cell? ⟨h, k * 3 + 2, none⟩ = some (.int .i64 ((p.getD k ⟨#[]⟩).size : Int))) := hid fun W hW k hk => by
        rw [HMM.out] at hk
        obtain ⟨g, e1, _, _, t1, t2, t3⟩ := row_place (own_below HRB.out hW (Nat.le_refl _)) k hk
        obtain ⟨h, e2, _, _, t4, t5, t6⟩ := row_place (own_below HSB.out hW (Nat.le_refl _)) k hk
        exact ⟨g, h, e1, e2, t1, t2, t3, t4, t5, t6⟩
      obtain ⟨D, hD⟩ : ∃ D, D = dg (pb p) := ⟨_, rfl⟩
      obtain ⟨P, hP⟩ : ∃ P, P = pb p := ⟨_, rfl⟩
      rw [← hD] at a1 b1
      rw [← hP] at a0 b0
      replace a0 := (HB.out.cell (p := ⟨gA, i * 4, none⟩) hgA).trans a0
      replace a1 := (HB.out.cell (p := ⟨gA, i * 4 + 1, none⟩) hgA).trans a1
      replace b0 := (HB.out.cell (p := ⟨gB, i * 4, none⟩) hgB).trans b0
      replace b1 := (HB.out.cell (p := ⟨gB, i * 4 + 1, none⟩) hgB).trans b1
      obtain ⟨a2, a3, b2, b3⟩ := HX.out _ HB.out
      clear hD hP hgA hgB HRA HRB HSA HSB
      go_wp2_with fail
      go_quiet (fail)
      clear a0 a1 a2 a3 b0 b1 b2 b3
      have HB9 := hid (below_draws HB.out nq)
      clear HB
      generalize wr.drewN nq = w9 at *
      go_wp2_with fail
      go_loopw [6] (fun v6 wz => ∃ k : Nat, k ≤ m ∧ v6 = .int .i64 (k : Int) ∧ Hid (Below w.heap.size w wz)) (fun v6 _ => m - (intOf v6).toNat)
      case atStart => exact ⟨0, Nat.zero_le _, rfl, HB9.out⟩
      case round =>
        obtain ⟨k, hk, rfl, HZ⟩ := hrel
        obtain ⟨a2, a3, b2, b3⟩ := HX.out _ HZ.out
        by_cases hkm : k < m
        · have j1 : (k : Int) < (m : Int) := by omega
          have j0 : (0 : Int) ≤ (k : Int) := by omega
          have wk : IntKind.i64.wrap ((k : Int) + 1) = ((k + 1 : Nat) : Int) := by rw [IntKind.wrap_i64]; omega
          have hk1 : k + 1 ≤ m := hkm
          obtain ⟨g, h, eg, eh, t1, t2⟩ := HT.out _ HZ.out k hkm
          subst eg eh
          generalize dg (p.getD k ⟨#[]⟩) = s at *
          go_wp2_with fail
          go_quiet (fail)
          go_wp2_with fail
          go_roundw
          case rel => exact ⟨k + 1, hk1, by rfl, below_draws HZ.out _⟩
          case measure => first | (simp [intOf]; done) | (simp [intOf]; omega)
        · obtain rfl : m = k := by omega
          have j1 : ¬ ((m : Int) < (m : Int)) := by omega
          generalize wr = w8 at *
          go_wp2_with fail
          go_loopw [7] (fun v7 wz => ∃ k : Nat, k ≤ m ∧ v7 = .int .i64 (k : Int) ∧ Hid (Below w.heap.size w wz)) (fun v7 _ => m - (intOf v7).toNat)
          case atStart => exact ⟨0, Nat.zero_le _, rfl, HZ.out⟩
          case round =>
            obtain ⟨k, hk, rfl, HZ⟩ := hrel
            obtain ⟨a2, a3, b2, b3⟩ := HX.out _ HZ.out
            by_cases hkm : k < m
            · have j1 : (k : Int) < (m : Int) := by omega
              have j0 : (0 : Int) ≤ (k : Int) := by omega
              have wk : IntKind.i64.wrap ((k : Int) + 1) = ((k + 1 : Nat) : Int) := by rw [IntKind.wrap_i64]; omega
              have hk1 : k + 1 ≤ m := hkm
              obtain ⟨g, h, eg, eh, t1, t2, t3, t4, t5, t6⟩ := HU.out _ HZ.out k hkm
              subst eg eh
              generalize dg (pb p) = s at *
              generalize pat p k = s2 at *
              generalize (p.getD k ⟨#[]⟩).size = s3 at *
              go_wp2_with fail
              go_quiet (fail)
              go_wp2_with fail
              go_roundw
              case rel => exact ⟨k + 1, hk1, by rfl, below_draws HZ.out _⟩
              case measure => first | (simp [intOf]; done) | (simp [intOf]; omega)
            · obtain rfl : m = k := by omega
              have j1 : ¬ ((m : Int) < (m : Int)) := by omega
              generalize wr = w8 at *
              go_wp2_with fail
              go_roundw
              case rel => exact ⟨i + 1, hi1, by rfl, HZ⟩
              case measure => first | (simp [intOf]; done) | (simp [intOf]; omega)
    · obtain rfl : i = n := by omega
      have i1 : ¬ ((i : Int) < (i : Int)) := by omega
      go_wp2_with fail
      go_ret
      exact ⟨rfl, HB.out⟩
end Go.Proofs.YtjhjolnflkekoaaDoor
