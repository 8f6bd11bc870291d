/- The contract of the closure that closes a pack. -/
import Derived.Test.YtjhjolnflkekoaaDoorPackOf
namespace Go.Proofs.YtjhjolnflkekoaaDoor
open Go.RowKit Go.Maps
open Pk
set_option linter.unusedVariables false
def shF (lo : Nat) (vp vo : Value) (B : Nat) (op : List ByteArray) (d : Nat) (v : Value) (W : World) : Prop := match d with
  | 6 => v = vp
  | 7 => v = vo
  | 8 => ∃ a b, v = pkV op a b ∧ PkAt W B op a b
  | 9 => ∃ a b q, v = .slice (some ⟨q, 0, none⟩) 1 1 ∧ Has W q (pkC (op, a, b)).toArray 39 ∧ PkAt W B op a b
  | _ => True
theorem shF_mono {lo B : Nat} {vp vo : Value} {op : List ByteArray} {W W' : World} (hb : Below W.heap.size W W') (d : Nat) (v : Value) (h : shF lo vp vo B op d v W) : shF lo vp vo B op d v W' := by
  unfold shF at h ⊢
  split at h
  · exact h
  · exact h
  · obtain ⟨a, b, h1, h2⟩ := h
    exact ⟨a, b, h1, h2.below hb (Nat.le_refl _)⟩
  · obtain ⟨a, b, q, h1, h2, h3⟩ := h
    exact ⟨a, b, q, h1, h2.below hb h2.lt, h3.below hb (Nat.le_refl _)⟩
  · trivial
theorem rn_bs25 {ev : Operand → Value} {o : Oper} {w : World} {x : Operand} {p : List ByteArray} {a b : Nat} (ho : o.op = .buildSlice 25 1 #[(0, x)]) (hx : ev x = pkV p a b) : (execOp ev o).run Tryd.prog w = .ok (.value (.slice (some ⟨w.heap.size, 0, none⟩) 1 1)) (w.alloc (.cells (pkC (p, a, b)).toArray 39)) := by
  unfold pkV at hx
  simp [execOp, ho, hx, go_sem, pkC]
/-- a row of texts that can be read -/
theorem own_tx {W : World} {b n : Nat} {v : Value} {l : List ByteArray} (h : W.ownsRow b 9 1 v n (l.map Value.string)) : ∃ A cap, v = .slice A l.length cap ∧ n = l.length ∧ Tx W A l := by
  obtain ⟨A, cap, h1, _, h2, h3⟩ := row_tx h
  exact ⟨A, cap, h1, h2, h3⟩
set_option maxRecDepth 20000 in
set_option maxHeartbeats 4000000 in
theorem shut_any (bo bp bz lo : Nat) (op : List ByteArray) (L : List (List ByteArray × Nat × Nat)) (vo vp : Value) (z : Int) (w : World) (ht : S.Tabs w) (ho : Has w bo #[vo] 22) (hp : Has w bp #[vp] 25) (hz : Has w bz #[.int .i64 z] 3)
    (hro : w.ownsRow lo 9 1 vo op.length (op.map Value.string)) (hL : Pks w lo vp L) (hlo : lo ≤ bo ∧ lo ≤ bp ∧ lo ≤ bz) (hM : op ≠ [] → May (op.map bs)) (hll : L.length ≤ 1000000) :
    Calls Tryd.prog 29 #[.pointer (some ⟨bo, 0, none⟩), .pointer (some ⟨bp, 0, none⟩), .pointer (some ⟨bz, 0, none⟩)] w fun e w' => e = .returned (.tuple #[]) ∧ ∃ vp' L', Has w' bo #[.slice none 0 0] 22 ∧ Has w' bp #[vp'] 25 ∧ Has w' bz #[.int .i64 0] 3 ∧ Pks w' lo vp' L' ∧ L'.map (·.1) = L.map (·.1) ++ (if op = [] then [] else [op]) ∧ Below lo w w' := by
  obtain ⟨A, cap, ev, _, hx⟩ := own_tx hro
  have h0 := ho.cell 0
  have h1 := hp.cell 0
  have h2 := hz.cell 0
  have f0 := ho.frozen 0
  have f1 := hp.frozen 0
  have f2 := hz.frozen 0
  simp at h0 h1 h2
  have hlw : lo ≤ w.heap.size := Nat.le_trans hlo.1 (Nat.le_of_lt ho.lt)
  by_cases he : op = []
  · subst he
    have e0 : vo = .slice A 0 cap := ev
    subst e0
    have HZ1 := hz.other ⟨bo, 0, none⟩ (.slice none 0 0) (has_ne hz ho (by decide))
    have HP1 := hp.other ⟨bo, 0, none⟩ (.slice none 0 0) (has_ne hp ho (by decide))
    have HO1 := ho.set 0 (.slice none 0 0)
    have HO2 := HO1.other ⟨bz, 0, none⟩ (.int .i64 0) (has_ne HO1 HZ1 (by decide))
    have HP2 := HP1.other ⟨bz, 0, none⟩ (.int .i64 0) (has_ne HP1 HZ1 (by decide))
    have HZ2 := HZ1.set 0 (.int .i64 0)
    have HL2 := (hL.set (o := 0) ho (by decide) (by decide) (by decide) (.slice none 0 0)).set (o := 0) HZ1 (by decide) (by decide) (by decide) (.int .i64 0)
    have HB2 : Below lo w ((w.setCell ⟨bo, 0, none⟩ (.slice none 0 0)).setCell ⟨bz, 0, none⟩ (.int .i64 0)) := ((Below.refl lo w).setCell (p := ⟨bo, 0, none⟩) hlo.1 _).setCell (p := ⟨bz, 0, none⟩) hlo.2.2 _
    have h3 := HZ1.cell 0
    have f3 := HZ1.frozen 0
    simp at h3
    have HH := hid (And.intro HO2 (And.intro HP2 (And.intro HZ2 (And.intro HL2 HB2))))
    clear ho hp hz hro hL hM ev hx HZ1 HP1 HO1 HO2 HP2 HZ2 HL2 HB2 ht
    go_enter Tryd.func29, Tryd.ntmps29
    go_wp2_with fail
    obtain ⟨g1, g2, g3, g4, g5⟩ := HH.out
    exact bodyPost_end (v := .tuple #[]) (by simp [results, Tryd.results29, go_sem]) rfl ⟨rfl, g1, vp, g2, g3, L, g4, by simp, g5⟩
  · obtain ⟨i0, hi, hz0, hz1, hz2⟩ := info_parts (show (Tryd.prog.info? 39).map (fun i => (i.zero, i.size, i.bytes)) = some (some (.agg #[.string ⟨#[]⟩, .string ⟨#[]⟩, .slice none 0 0, .slice none 0 0]), 4, 80) by kernel_rfl)
    have hm := may_tot (hM he)
    have hne : 0 < op.length := List.length_pos_iff.2 he
    have d0 : decide ((0 : Int) < (op.length : Int)) = true := by simp; omega
    have HCP : Hid (∀ W, Tx W A op → S.Tabs W → _) := hid (fun W hX hT => packOf_any op A cap W hT hX (hM he))
    have HX := hid hx
    have HT := hid ht
    have LP := hid hp.lt
    have LO := hid ho.lt
    have CP := hid h1
    have CO := hid h0
    have HO := hid ho
    have HP := hid hp
    have HZ := hid hz
    have HL := hid hL
    have HRO := hid hro
    rw [← ev] at HCP
    have HEV := hid ev
    have h0' := h0
    rw [ev] at h0'
    clear ho hp hz hro hL hM hx h0 h1 h2 f0 f1 f2 ev ht
    go_enter Tryd.func29, Tryd.ntmps29
    go_wp2_with fail
    refine Tl.wp_mix_lit (by kernel_rfl) 4 [6, 7, 8, 9] 11 rfl (by kernel_rfl) (fun W => Below w.heap.size w W) (shF lo vp vo w.heap.size op) (Below.refl _ _).drew
      ⟨fun a' W' hC hF => ?_, fun a' W' hC hF => ?_, fun a' W' hC hF => ?_, fun a' W' hC hF => ?_, trivial⟩ ?_
    · exact Tl.sm_v 6 _ rfl (Tl.wanted_none rfl) hC rfl (rn_load25 rfl ((hF 1 (by decide +kernel)).2 (by decide)) ((hC.cell (p := ⟨bp, 0, none⟩) LP.out).trans CP.out))
    · exact Tl.sm_v 7 _ rfl (Tl.wanted_none rfl) hC rfl (rn_load22 rfl ((hF 0 (by decide +kernel)).2 (by decide)) ((hC.cell (p := ⟨bo, 0, none⟩) LO.out).trans CO.out))
    · refine Tl.sm_call 30 #[_] (Tl.wanted_none rfl) (rn_call1 rfl rfl (show Act.eval a' (.tmp 7) = vo from ((hF 7 (by decide +kernel)).1 (by decide))) (en30 _ _)) ((HCP.out W' (HX.out.below hC) (tabs_below HT.out hC (Nat.le_refl _))).mono ?_)
      rintro e W'' ⟨a, b, rfl, hpk, hb⟩
      exact ⟨_, rfl, hC.trans (hb.mono hC.size), fun d v _ h => shF_mono hb d v h, fun d hd => by cases hd; exact ⟨a, b, rfl, hpk.mono hC.size⟩⟩
    · obtain ⟨a, b, e8, hp8⟩ := (show shF lo vp vo w.heap.size op 8 (a'.tmps.getD 8 undef) W' from ((hF 8 (by decide +kernel)).1 (by decide)))
      refine Tl.sm_w (.slice (some ⟨W'.heap.size, 0, none⟩) 1 1) (Tl.wanted_none rfl) (rn_bs25 rfl e8) (hC.alloc hC.size _) (fun d v _ h => shF_mono ((Below.refl _ _).alloc (Nat.le_refl _) _) d v h) (fun d hd => ?_)
      cases hd
      exact ⟨a, b, W'.heap.size, rfl, Has.new _ _ _ _ rfl, hp8.below ((Below.refl _ _).alloc (Nat.le_refl _) _) (Nat.le_refl _)⟩
    intro v' w2 hC hv
    obtain ⟨a, b, q, e9, hq, hpk⟩ := (show shF lo vp vo w.heap.size op 9 (v' 9) w2 from hv 9 (by decide))
    have e6 : v' 6 = vp := hv 6 (by decide)
    clear hv
    simp only [Tl.fill, List.drop]
    simp only [Act.put, List.setIfInBounds_toArray, List.set_cons_succ, List.set_cons_zero, e6, e9]
    have hsz := hC.size
    refine wpList_append_own _ rfl _ _ 25 rfl lo 39 i0 _ 4 80 Tryd.underlying25 hi hz0 hz1 hz2 rfl (by decide) vp L.length _ rfl (own_below HL.out.row hC (Nat.le_refl _)) ⟨q, 0, none⟩ 1 1 (pkC (op, a, b)) rfl rfl (fun j u hu => ?_) (by simp [pkC, Value.oneCell']) (by unfold maxLen; omega) (by omega) (by omega) ?_
    · have hadd : (⟨q, 0, none⟩ : Addr).add j = ⟨q, j, none⟩ := by unfold Addr.add; split <;> simp_all
      rw [hadd, hq.cell, List.getElem?_toArray]; exact hu
    intro v3 w3 hown hgrow _
    have HL3 := (HL.out.below hC (Nat.le_refl _)).push hpk (by omega) (fun x hx => HL.out.lts x hx) hown hgrow
    obtain ⟨A3, cap3, ev3⟩ := HL3.slice
    subst ev3
    have hO2 := HO.out.below hC LO.out
    have hP2 := HP.out.below hC LP.out
    have hZ2 := HZ.out.below hC HZ.out.lt
    have hrow2 := own_below HL.out.row hC (Nat.le_refl _)
    have hO3 := hO2.grown hgrow (own_has hrow2 hO2 (by decide))
    have hP3 := hP2.grown hgrow (own_has hrow2 hP2 (by decide))
    have hZ3 := hZ2.grown hgrow (own_has hrow2 hZ2 (by decide))
    have hB3 : Below lo w w3 := (hC.mono hlw).grown hgrow (by omega) (fun j hj => (hrow2.lt j hj).1)
    have c3 := hP3.cell 0
    simp at c3
    refine wpList_st rfl rfl (rn_st25 (x := .tmp 1) (y := .tmp 10) rfl rfl rfl c3 (hP3.frozen 0)) ?_
    simp only [wpList]
    have hO4 := hO3.other ⟨bp, 0, none⟩ (.slice A3 (L ++ [(op, a, b)]).length cap3) (has_ne hO3 hP3 (by decide))
    have hZ4 := hZ3.other ⟨bp, 0, none⟩ (.slice A3 (L ++ [(op, a, b)]).length cap3) (has_ne hZ3 hP3 (by decide))
    have hP4 := hP3.set 0 (.slice A3 (L ++ [(op, a, b)]).length cap3)
    have hL4 := HL3.set (o := 0) hP3 (by decide) (by decide) (by decide) (.slice A3 (L ++ [(op, a, b)]).length cap3)
    have hB4 := hB3.setCell (p := ⟨bp, 0, none⟩) hlo.2.1 (.slice A3 (L ++ [(op, a, b)]).length cap3)
    clear e6 e9 hq hpk hsz hown hgrow HL3 hO2 hP2 hZ2 hrow2 hO3 hP3 hZ3 hB3 c3 hC
    generalize w3.setCell ⟨bp, 0, none⟩ (.slice A3 (L ++ [(op, a, b)]).length cap3) = w4 at *
    have HZ1 := hZ4.other ⟨bo, 0, none⟩ (.slice none 0 0) (has_ne hZ4 hO4 (by decide))
    have HP1 := hP4.other ⟨bo, 0, none⟩ (.slice none 0 0) (has_ne hP4 hO4 (by decide))
    have HO1 := hO4.set 0 (.slice none 0 0)
    have HO2 := HO1.other ⟨bz, 0, none⟩ (.int .i64 0) (has_ne HO1 HZ1 (by decide))
    have HP2 := HP1.other ⟨bz, 0, none⟩ (.int .i64 0) (has_ne HP1 HZ1 (by decide))
    have HZ2 := HZ1.set 0 (.int .i64 0)
    have HL2 := (hL4.set (o := 0) hO4 (by decide) (by decide) (by decide) (.slice none 0 0)).set (o := 0) HZ1 (by decide) (by decide) (by decide) (.int .i64 0)
    have HB2 : Below lo w ((w4.setCell ⟨bo, 0, none⟩ (.slice none 0 0)).setCell ⟨bz, 0, none⟩ (.int .i64 0)) := (hB4.setCell (p := ⟨bo, 0, none⟩) hlo.1 _).setCell (p := ⟨bz, 0, none⟩) hlo.2.2 _
    have h3 := HZ1.cell 0
    have f3 := HZ1.frozen 0
    have h4 := hO4.cell 0
    have f4 := hO4.frozen 0
    simp at h3 h4
    have HH := hid (And.intro HO2 (And.intro HP2 (And.intro HZ2 (And.intro HL2 HB2))))
    clear HZ1 HP1 HO1 HO2 HP2 HZ2 HL2 HB2 hO4 hP4 hZ4 hL4 hB4
    go_wp2_with fail
    obtain ⟨g1, g2, g3, g4, g5⟩ := HH.out
    exact bodyPost_end (v := .tuple #[]) (by simp [results, Tryd.results29, go_sem]) rfl ⟨rfl, g1, _, g2, g3, _, g4, by first | (simp; done) | (rw [if_neg he]; simp), g5⟩
end Go.Proofs.YtjhjolnflkekoaaDoor
