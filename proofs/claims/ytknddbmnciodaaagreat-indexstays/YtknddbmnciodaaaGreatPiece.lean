/- The contract of the program's apiece: digests and places of chunks, apart. -/
import Derived.Test.YtknddbmnciodaaaGreatOps
import Derived.Test.YtknddbmnciodaaaGreatOwn
import Derived.Test.YtknddbmnciodaaaGreatRow
import Derived.Test.YtknddbmnciodaaaGreatCks
import Derived.Deep.Cut
import Derived.Deep.CutRange
namespace Go.Proofs.YtknddbmnciodaaaGreat
open Go.RowKit Go.Lib Go.Sort
open Ix
set_option linter.unusedVariables false
/-- at A these chunks stand, four cells each -/
def Ks (w : World) (A : Option Addr) (L : List En) : Prop := ∀ j, j < L.length → ∃ g, A = some ⟨g, 0, none⟩ ∧ g < w.heap.size ∧ w.cell? ⟨g, j * 4, none⟩ = some (.string (L.getD j k0).1) ∧ w.cell? ⟨g, j * 4 + 1, none⟩ = some (.string (L.getD j k0).2.pack) ∧ w.cell? ⟨g, j * 4 + 2, none⟩ = some (.int .i64 (L.getD j k0).2.at_) ∧ w.cell? ⟨g, j * 4 + 3, none⟩ = some (.int .i64 (L.getD j k0).2.len)
theorem rw_ks {W : World} {b : Nat} {L : List En} (hb : b < W.heap.size) (h : Rw ck4 4 W b L) : Ks W (some ⟨b, 0, none⟩) L := fun j hj => by
  have f := h j _ (get_of k0 hj)
  exact ⟨b, rfl, hb, (f 0 _ rfl).1, (f 1 _ rfl).1, (f 2 _ rfl).1, (f 3 _ rfl).1⟩
theorem ks_cell {w wr : World} {A : Option Addr} {L : List En} (h : Ks w A L) (hb : RowKit.Below w.heap.size w wr) {j : Nat} (hj : j < L.length) : ∃ g, A = some ⟨g, 0, none⟩ ∧ g < w.heap.size ∧ wr.cell? ⟨g, j * 4, none⟩ = some (.string (L.getD j k0).1) ∧ wr.cell? ⟨g, j * 4 + 1, none⟩ = some (.string (L.getD j k0).2.pack) ∧ wr.cell? ⟨g, j * 4 + 2, none⟩ = some (.int .i64 (L.getD j k0).2.at_) ∧ wr.cell? ⟨g, j * 4 + 3, none⟩ = some (.int .i64 (L.getD j k0).2.len) := by
  obtain ⟨g, e, hg, h1, h2, h3, h4⟩ := h j hj
  exact ⟨g, e, hg, by rw [hb.cell (p := ⟨g, j * 4, none⟩) hg]; exact h1, by rw [hb.cell (p := ⟨g, j * 4 + 1, none⟩) hg]; exact h2, by rw [hb.cell (p := ⟨g, j * 4 + 2, none⟩) hg]; exact h3, by rw [hb.cell (p := ⟨g, j * 4 + 3, none⟩) hg]; exact h4⟩
theorem Ks.below {w w' : World} {A : Option Addr} {L : List En} (h : Ks w A L) (hb : RowKit.Below w.heap.size w w') : Ks w' A L := fun j hj => by
  obtain ⟨g, e, hg, hc⟩ := ks_cell h hb hj
  exact ⟨g, e, Nat.lt_of_lt_of_le hg hb.size, hc⟩
theorem sTx_set {W : World} {b : Nat} {L : List ByteArray} {t : TypeId} (h : Has W b (sTx L) t) (k : Nat) (hk : k < L.length) (y : ByteArray) : Has (W.setCell ⟨b, k, none⟩ (.string y)) b (sTx (L.set k y)) t := by
  have := h.set k (.string y)
  unfold sTx at *
  rw [List.setIfInBounds_toArray, ← List.map_set] at this
  exact this
theorem sTx_cell {W : World} {b k : Nat} {l : List ByteArray} {t : TypeId} (h : Has W b (sTx l) t) (hk : k < l.length) : W.cell? ⟨b, k, none⟩ = some (.string (l.getD k ⟨#[]⟩)) := by
  rw [h.cell]; unfold sTx; rw [List.getElem?_toArray, List.getElem?_map, get_of ⟨#[]⟩ hk]; rfl
theorem pC_cells {W : World} {b : Nat} {L : List Pl} {t : TypeId} (h : Has W b (pC L) t) (k : Nat) (hk : k < L.length) :
    W.cell? ⟨b, k * 3, none⟩ = some (.string (L.getD k default).pack) ∧ W.cell? ⟨b, k * 3 + 1, none⟩ = some (.int .i64 (L.getD k default).at_) ∧ W.cell? ⟨b, k * 3 + 2, none⟩ = some (.int .i64 (L.getD k default).len) := by
  have f := has_rw (f := pl3) (m := 3) (fun _ => rfl) h k _ (get_of default hk)
  exact ⟨(f 0 _ rfl).1, (f 1 _ rfl).1, (f 2 _ rfl).1⟩
theorem pC_put {W : World} {b : Nat} {L : List Pl} {t : TypeId} (h : Has W b (pC L) t) (k : Nat) (hk : k < L.length) (y : Pl) :
    Has (((W.setCell ⟨b, k * 3, none⟩ (.string y.pack)).setCell ⟨b, k * 3 + 1, none⟩ (.int .i64 y.at_)).setCell ⟨b, k * 3 + 2, none⟩ (.int .i64 y.len)) b (pC (L.set k y)) t :=
  has_set3 pl3 3 (fun _ => rfl) h hk y
theorem two_texts (n : Nat) (hn : n ≤ 1000000) (w : World) : (Instr.makeSlice 29 (.int .i64 (n : Int)) (.int .i64 (n : Int))).run Tryz.prog w = .ok (.slice (some ⟨w.heap.size, 0, none⟩) n n) (w.alloc (.cells (sTx (List.replicate n ⟨#[]⟩)) 9)) := makes_texts n hn w
/-- two rows that are filled -/
structure Pc (w : World) (g1 g2 : Nat) (C : List ByteArray) (P : List Pl) (W : World) : Prop where
  l1 : w.heap.size ≤ g1
  l2 : w.heap.size ≤ g2
  ne : g1 ≠ g2
  h1 : Has W g1 (sTx C) 9
  h2 : Has W g2 (pC P) 24
  below : RowKit.Below w.heap.size w W
theorem Pc.stay {w : World} {g1 g2 : Nat} {C : List ByteArray} {P : List Pl} {W W' : World} (h : Pc w g1 g2 C P W) (hb : RowKit.Below W.heap.size W W') : Pc w g1 g2 C P W' :=
  ⟨h.l1, h.l2, h.ne, h.h1.below hb h.h1.lt, h.h2.below hb h.h2.lt, h.below.trans (hb.mono h.below.size)⟩
theorem Pc.drew {w : World} {g1 g2 : Nat} {C : List ByteArray} {P : List Pl} {W : World} (h : Pc w g1 g2 C P W) : Pc w g1 g2 C P W.drew := h.stay (below_drew (RowKit.Below.refl _ _))
set_option maxRecDepth 20000 in
set_option maxHeartbeats 8000000 in
theorem apiece_any (L : List En) (A : Option Addr) (c : Nat) (hn : L.length ≤ 100000) (hs : ∀ e ∈ L, e.1.size ≤ 1000000 ∧ e.2.pack.size ≤ 1000000) (w : World) (hL : Ks w A L) :
    Calls Tryz.prog 42 #[.slice A L.length c] w fun e w' => ∃ g1 g2, e = .returned (.tuple #[.slice (some ⟨g1, 0, none⟩) L.length L.length, .slice (some ⟨g2, 0, none⟩) L.length L.length]) ∧ Pc w g1 g2 (L.map Prod.fst) (L.map Prod.snd) w' := by
  have mk1 := fun W => makes_texts L.length (by omega) W
  have mk2 := fun W => makes_places L.length (by omega) W
  have HL := hid hL
  have HS := hid hs
  have HM1 := hid (fun k (hk : k < L.length) => (show (L.map Prod.fst)[k]? = some (L.getD k k0).1 from by rw [List.getElem?_map, get_of k0 hk]; rfl))
  have HM2 := hid (fun k (hk : k < L.length) => (show (L.map Prod.snd)[k]? = some (L.getD k k0).2 from by rw [List.getElem?_map, get_of k0 hk]; rfl))
  have hl1 : (L.map Prod.fst).length = L.length := List.length_map _
  have hl2 : (L.map Prod.snd).length = L.length := List.length_map _
  have HE1 := hid (upTo_zero (L.map Prod.fst) (⟨#[]⟩ : ByteArray))
  have HE2 := hid (upTo_zero (L.map Prod.snd) p0)
  rw [hl1] at HE1
  rw [hl2] at HE2
  have HA1 := hid (upTo_all (L.map Prod.fst) (⟨#[]⟩ : ByteArray))
  have HA2 := hid (upTo_all (L.map Prod.snd) p0)
  rw [hl1] at HA1
  rw [hl2] at HA2
  have HL1 := hid hl1
  have HL2 := hid hl2
  clear hL hs hl1 hl2
  generalize hm : L.length = m at *
  have HM := hid hm
  clear hm
  go_enter Tryz.func42, Tryz.ntmps42
  go_upto_region 1 with fail
  go_cut [4, 5] from 8 to 13 (fun v4 v5 wx => ∃ g1 g2, v4 = .slice (some ⟨g1, 0, none⟩) m m ∧ v5 = .slice (some ⟨g2, 0, none⟩) m m ∧ Hid (Pc w g1 g2 (upTo (L.map Prod.fst) ⟨#[]⟩ 0) (upTo (L.map Prod.snd) p0 0) wx))
  case first =>
    go_region
    all_goals (go_wp2_with fail)
    all_goals go_meet
    case rel => exact ⟨w.heap.size, w.heap.size + 1, rfl, rfl, hid (Pc.drew ⟨Nat.le_refl _, by omega, by omega, by rw [HE1.out]; exact (Has.new w _ _ _ rfl).alloc _, by rw [HE2.out]; exact Has.new _ _ _ _ (by simp), ((RowKit.Below.refl _ w).alloc (Nat.le_refl _) _).alloc (by simp) _⟩)⟩
    case rel => exact ⟨w.heap.size + 1, w.heap.size, rfl, rfl, hid (Pc.drew ⟨by omega, Nat.le_refl _, by omega, by rw [HE1.out]; exact Has.new _ _ _ _ (by simp), by rw [HE2.out]; exact (Has.new w _ _ _ rfl).alloc _, ((RowKit.Below.refl _ w).alloc (Nat.le_refl _) _).alloc (by simp) _⟩)⟩
  case rest =>
    obtain ⟨g1, g2, rfl, rfl, HP0⟩ := hcut
    clear mk1 mk2 HE1 HE2
    go_wp2_with fail
    go_loopw [16] (fun v16 wr => ∃ k : Nat, k ≤ m ∧ v16 = .int .i64 (k : Int) ∧ Hid (Pc w g1 g2 (upTo (L.map Prod.fst) ⟨#[]⟩ k) (upTo (L.map Prod.snd) p0 k) wr)) (fun v16 _ => m - (intOf v16).toNat)
    case atStart => exact ⟨0, Nat.zero_le _, rfl, HP0⟩
    case round =>
      obtain ⟨k, hk, rfl, HP⟩ := hrel
      clear HP0
      by_cases hlt : k < m
      · have hlt1 : k < L.length := by rw [HM.out]; exact hlt
        obtain ⟨g, rfl, hg, a1, a2, a3, a4⟩ := ks_cell HL.out HP.out.below hlt1
        have hsx := HS.out _ (by rw [List.getD_eq_getElem?_getD, List.getElem?_eq_getElem hlt1]; exact List.getElem_mem hlt1 : L.getD k k0 ∈ L)
        have HX1 := HM1.out k hlt
        have HX2 := HM2.out k hlt
        generalize L.getD k k0 = x at *
        have j1 : (k : Int) < (m : Int) := by omega
        have j0 : (0 : Int) ≤ (k : Int) := by omega
        have wk : IntKind.i64.wrap ((k : Int) + 1) = ((k + 1 : Nat) : Int) := by rw [IntKind.wrap_i64]; omega
        have C1 := fun W => clone_any x.1 W (by omega)
        have C2 := fun W => own_any x.2 (by omega) W
        change ∀ W, Calls Tryz.prog 33 #[.agg #[.string x.2.pack, .int .i64 x.2.at_, .int .i64 x.2.len]] W (fun e w' => e = .returned (.agg #[.string x.2.pack, .int .i64 x.2.at_, .int .i64 x.2.len]) ∧ _) at C2
        obtain ⟨w2, hw2⟩ : ∃ w2, w2 = wr.alloc (.cells #[.string x.1, .string x.2.pack, .int .i64 x.2.at_, .int .i64 x.2.len] 61) := ⟨_, rfl⟩
        have hb2 : RowKit.Below wr.heap.size wr w2 := by rw [hw2]; exact (RowKit.Below.refl _ _).alloc (Nat.le_refl _) _
        obtain ⟨q, hq⟩ : ∃ q, q = wr.heap.size := ⟨_, rfl⟩
        have n2 : Has w2 q #[.string x.1, .string x.2.pack, .int .i64 x.2.at_, .int .i64 x.2.len] 61 := by rw [hw2]; exact Has.new _ _ _ _ hq
        have HP2 := hid (HP.out.stay hb2)
        have d1 : w2.cell? ⟨q, 0, none⟩ = some (.string x.1) := by rw [n2.cell]; rfl
        have d2 : w2.cell? ⟨q, 1, none⟩ = some (.string x.2.pack) := by rw [n2.cell]; rfl
        have d3 : w2.cell? ⟨q, 2, none⟩ = some (.int .i64 x.2.at_) := by rw [n2.cell]; rfl
        have d4 : w2.cell? ⟨q, 3, none⟩ = some (.int .i64 x.2.len) := by rw [n2.cell]; rfl
        have HQL := hid n2.lt
        clear n2 hb2 HP
        go_upto_region 5 with fail
        rw [← hw2, ← hq]
        clear hw2 hq a1 a2 a3 a4
        have HW := hid (fun W (hW : RowKit.Below w2.heap.size w2 W) => (show (W.cell? ⟨q, 0, none⟩ = some (.string x.1) ∧ W.cell? ⟨q, 1, none⟩ = some (.string x.2.pack) ∧ W.cell? ⟨q, 2, none⟩ = some (.int .i64 x.2.at_) ∧ W.cell? ⟨q, 3, none⟩ = some (.int .i64 x.2.len)) from ⟨(hW.cell (p := ⟨q, 0, none⟩) HQL.out).trans d1, (hW.cell (p := ⟨q, 1, none⟩) HQL.out).trans d2, (hW.cell (p := ⟨q, 2, none⟩) HQL.out).trans d3, (hW.cell (p := ⟨q, 3, none⟩) HQL.out).trans d4⟩))
        have HQ := hid (fun W (hW : RowKit.Below w2.heap.size w2 W) => (show (∃ u, W.cell? ⟨g1, k, none⟩ = some u) ∧ W.frozen? ⟨g1, k, none⟩ = false ∧ (∃ u, W.cell? ⟨g2, k * 3, none⟩ = some u) ∧ (∃ u, W.cell? ⟨g2, k * 3 + 1, none⟩ = some u) ∧ (∃ u, W.cell? ⟨g2, k * 3 + 2, none⟩ = some u) ∧ W.frozen? ⟨g2, k * 3, none⟩ = false ∧ W.frozen? ⟨g2, k * 3 + 1, none⟩ = false ∧ W.frozen? ⟨g2, k * 3 + 2, none⟩ = false from by
          have hP3 := HP2.out.stay hW
          have u1 : (upTo (L.map Prod.fst) (⟨#[]⟩ : ByteArray) k).length = m := by rw [upTo_len _ _ _ (by rw [HL1.out]; exact hk), HL1.out]
          have u2 : (upTo (L.map Prod.snd) p0 k).length = m := by rw [upTo_len _ _ _ (by rw [HL2.out]; exact hk), HL2.out]
          have s1 := sTx_cell hP3.h1 (k := k) (by rw [u1]; exact hlt)
          obtain ⟨y1, y2, y3⟩ := pC_cells hP3.h2 k (by rw [u2]; exact hlt)
          exact ⟨⟨_, s1⟩, hP3.h1.frozen k, ⟨_, y1⟩, ⟨_, y2⟩, ⟨_, y3⟩, hP3.h2.frozen _, hP3.h2.frozen _, hP3.h2.frozen _⟩))
        have HF := hid (fun W (hW : RowKit.Below w2.heap.size w2 W) => (show Pc w g1 g2 (upTo (L.map Prod.fst) ⟨#[]⟩ (k + 1)) (upTo (L.map Prod.snd) p0 (k + 1)) ((((W.setCell ⟨g1, k, none⟩ (.string x.1)).setCell ⟨g2, k * 3, none⟩ (.string x.2.pack)).setCell ⟨g2, k * 3 + 1, none⟩ (.int .i64 x.2.at_)).setCell ⟨g2, k * 3 + 2, none⟩ (.int .i64 x.2.len)) from by
          have hP3 := HP2.out.stay hW
          have u1 : (upTo (L.map Prod.fst) (⟨#[]⟩ : ByteArray) k).length = m := by rw [upTo_len _ _ _ (by rw [HL1.out]; exact hk), HL1.out]
          have u2 : (upTo (L.map Prod.snd) p0 k).length = m := by rw [upTo_len _ _ _ (by rw [HL2.out]; exact hk), HL2.out]
          have hs1 := sTx_set hP3.h1 k (by rw [u1]; exact hlt) x.1
          rw [upTo_set _ _ _ _ (by rw [HL1.out]; exact hlt) HX1] at hs1
          have hp1 := hP3.h2.other ⟨g1, k, none⟩ (.string x.1) hP3.ne.symm
          have hb1 : RowKit.Below w.heap.size w (W.setCell ⟨g1, k, none⟩ (.string x.1)) := hP3.below.setCell hP3.l1 _
          have hp2 := pC_put hp1 k (by rw [u2]; exact hlt) x.2
          rw [upTo_set _ _ _ _ (by rw [HL2.out]; exact hlt) HX2] at hp2
          exact ⟨hP3.l1, hP3.l2, hP3.ne, ((hs1.other ⟨g2, k * 3, none⟩ (.string x.2.pack) hP3.ne).other ⟨g2, k * 3 + 1, none⟩ (.int .i64 x.2.at_) hP3.ne).other ⟨g2, k * 3 + 2, none⟩ (.int .i64 x.2.len) hP3.ne, hp2, below_set (below_set (below_set hb1 hP3.l2 _) hP3.l2 _) hP3.l2 _⟩))
        have ne : g1 ≠ g2 := HP2.out.ne
        have ne' : g2 ≠ g1 := ne.symm
        go_region_with (first | (go_at_call 36; refine (C1 _).mono ?_; rintro e w9 ⟨rfl, hb9⟩; obtain ⟨c1', c2', c3', c4'⟩ := HW.out w9 ⟨hb9.os, hb9.tape, hb9.output, hb9.size, hb9.block⟩) | (go_at_call 33; refine (C2 _).mono ?_; rintro e w10 ⟨rfl, hb10⟩; obtain ⟨⟨u0, s1⟩, t1, ⟨u1, y1⟩, ⟨u2, y2⟩, ⟨u3, y3⟩, z1, z2, z3⟩ := HQ.out w10 (RowKit.Below.trans (show RowKit.Below w2.heap.size w2 w9 from ⟨hb9.os, hb9.tape, hb9.output, hb9.size, hb9.block⟩) (hb10.mono hb9.size))))
        all_goals
          have hW : RowKit.Below w2.heap.size w2 w10 := RowKit.Below.trans (show RowKit.Below w2.heap.size w2 w9 from ⟨hb9.os, hb9.tape, hb9.output, hb9.size, hb9.block⟩) (hb10.mono hb9.size)
          have HN := hid (HF.out w10 hW)
          clear hW hb9 hb10 HF HQ HW HP2 C1 C2 s1 t1 y1 y2 y3 z1 z2 z3 ne ne' c1' c2' c3' c4' d1 d2 d3 d4
          go_wp2_with fail
          go_roundw
          case rel => exact ⟨k + 1, by omega, by rfl, HN⟩
          case measure => first | (simp [intOf]; done) | (simp [intOf]; omega)
      · obtain rfl : m = k := by omega
        have j1 : ¬ ((m : Int) < (m : Int)) := by omega
        have HPP := hid (show Pc w g1 g2 (L.map Prod.fst) (L.map Prod.snd) wr from by have := HP.out; rwa [HA1.out, HA2.out] at this)
        go_wp2_with fail
        exact bodyPost_ret (v := .tuple #[.slice (some ⟨g1, 0, none⟩) m m, .slice (some ⟨g2, 0, none⟩) m m]) (by simp [results, Tryz.results42, go_sem]) rfl ⟨g1, g2, rfl, HPP.out⟩
end Go.Proofs.YtknddbmnciodaaaGreat

