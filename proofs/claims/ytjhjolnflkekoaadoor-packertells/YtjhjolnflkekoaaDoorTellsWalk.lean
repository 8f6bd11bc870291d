/- The walk of PackerTells. -/
import Derived.Test.YtjhjolnflkekoaaDoorBack
import Derived.Test.YtjhjolnflkekoaaDoorSame
import Derived.Test.YtjhjolnflkekoaaDoorRgather
import Derived.Test.YtjhjolnflkekoaaDoorAwake
import Derived.BigQuiet
namespace Go.Proofs.YtjhjolnflkekoaaDoor
open Go.RowKit Go.Maps
open Pk
set_option linter.unusedVariables false
/-- the packs of chunks, or none -/
def pkL (c : List ByteArray) : List (List ByteArray) := if badB c = true then [] else Gt.packs c
/-- and the error -/
def pkE (c : List ByteArray) : Int := if badB c = true then 4 else 0
theorem gather_all (c : List ByteArray) (A : Option Addr) (cap : Nat) (w : World) (ht : S.Tabs w) (h : Tx w A c) (hc : c.length ≤ 100000) (hct : tot c ≤ 100000000) :
    Calls Tryd.prog 8 #[.slice A c.length cap] w fun e w' => ∃ v L, e = .returned (.tuple #[v, .int .i64 (pkE c)]) ∧ Pks w' w.heap.size v L ∧ L.map (·.1) = pkL c ∧ Below w.heap.size w w' := by
  unfold pkE pkL
  cases hb : badB c with
  | true =>
    refine (gather_no c A cap w h hc hct hb).mono ?_
    rintro e w' ⟨rfl, hbl⟩
    exact ⟨_, [], rfl, Pks.nil _ _, rfl, hbl⟩
  | false => exact gather_yes c A cap w ht h hc hct hb
theorem refGather_all (c : List ByteArray) (A : Option Addr) (cap : Nat) (w : World) (h : Tx w A c) (hc : c.length ≤ 100000) (hct : tot c ≤ 100000000) :
    Calls Tryd.prog 9 #[.slice A c.length cap] w fun e w' => ∃ v M, e = .returned (.tuple #[v, .int .i64 (pkE c)]) ∧ Rks w' w.heap.size v M ∧ M.map (·.1) = pkL c ∧ Below w.heap.size w w' := by
  unfold pkE pkL
  cases hb : badB c with
  | true =>
    refine (refGather_no c A cap w h hc hct hb).mono ?_
    rintro e w' ⟨rfl, hbl⟩
    exact ⟨_, [], rfl, Rks.nil _ _, rfl, hbl⟩
  | false => exact refGather_yes c A cap w h hc hct hb
theorem tl_len (c : List ByteArray) : (Gt.packs c).length ≤ c.length := by
  have h1 : ∀ (l op : List ByteArray), (Gt.go op l).length ≤ op.length + l.length := by
    intro l
    induction l with
    | nil =>
      intro op
      unfold Gt.go
      split
      · simp
      · have : 0 < op.length := List.length_pos_iff.2 (by assumption)
        simp; omega
    | cons x r ih =>
      intro op
      by_cases h : op ≠ [] ∧ 4096 < tot op + x.size
      · rw [Gt.go_shut h, List.length_cons, List.length_cons]
        have := ih [x]
        have : 0 < op.length := List.length_pos_iff.2 h.1
        simp at *; omega
      · rw [Gt.go_open h, List.length_cons]
        have := ih (op ++ [x])
        simp at *; omega
  have := h1 (Gt.firsts [] c) []
  have := (firsts_sub c []).length_le
  unfold Gt.packs
  simp at *; omega
theorem pkL_len (c : List ByteArray) : (pkL c).length ≤ c.length := by
  unfold pkL
  split
  · exact Nat.zero_le _
  · exact tl_len c
theorem pkL_each (c : List ByteArray) : ∀ p ∈ pkL c, p.length ≤ 4096 ∧ (pb p).size ≤ 100000 := by
  intro p hp
  unfold pkL at hp
  cases hb : badB c with
  | true => rw [hb] at hp; cases hp
  | false =>
    rw [hb] at hp
    obtain ⟨h1, h2⟩ := may_tot (Gt.packs_may (bad_no hb) p (by simpa using hp))
    exact ⟨h1, by rw [pb_size]; omega⟩
theorem wpList_val {ops : Array Oper} {rest : List Oper} {o : Oper} {a : Act} {w w' : World} {v : Value} {Q : Exit → Act → World → Prop} (hgd : o.guard = none) (hr : (execOp a.eval o).run Tryd.prog w = .ok (.value v) w') (h : wpList Tryd.prog ops Q rest (a.put o.dst v) w') : wpList Tryd.prog ops Q (o :: rest) a w :=
  wpList_plain hgd fun K hK => by
    unfold Oper.wp
    rw [hr]
    exact hK _ _ h
/-- texts copied: append to an empty row -/
theorem app_tx {w : World} {g base cap : Nat} {A : Option Addr} {l : List ByteArray} (hg : Has w g #[] 9) (hb : base ≤ g) (h : Tx w A l) (hl : l.length ≤ 1000000) :
    ∃ v' w', (Builtin.append_ #[22, 22] 22 #[.slice (some ⟨g, 0, none⟩) 0 0, .slice A l.length cap]).run Tryd.prog w = .ok v' w' ∧ w'.ownsRow base 9 1 v' l.length (l.map Value.string) ∧ Below w.heap.size w w' := by
  obtain ⟨i0, hi, hz0, hz1, hz2⟩ := info_parts (show (Tryd.prog.info? 9).map (fun i => (i.zero, i.size, i.bytes)) = some (some (.string ⟨#[]⟩), 1, 16) by kernel_rfl)
  cases A with
  | some a =>
    refine app_nil Tryd.underlying22 hi hz0 hz1 hz2 rfl hg hb a l.length cap (l.map Value.string) (by simp) (fun j u hu => ?_) (by unfold maxLen; omega) (by omega)
    rw [List.getElem?_map] at hu
    cases hx : l[j]? with
    | none => rw [hx] at hu; cases hu
    | some s =>
      rw [hx] at hu
      have hj := (List.getElem?_eq_some_iff.1 hx).1
      obtain ⟨g', o', e, hg', hc⟩ := h j hj
      cases e
      have ea : (⟨g', o', none⟩ : Addr).add j = ⟨g', o' + j, none⟩ := by unfold Addr.add; split <;> simp_all
      rw [ea, hc, List.getD_eq_getElem?_getD, hx]
      exact hu
  | none =>
    have h0 : l = [] := by
      cases l with
      | nil => rfl
      | cons x r => obtain ⟨g', o', e, _⟩ := h 0 (by simp); cases e
    subst h0
    refine ⟨.slice (some ⟨g, 0, none⟩) 0 0, w, ?_, ⟨by simp, .inr ⟨g, 0, #[], rfl, hb, hg, Nat.le_refl _, Nat.zero_le _, by simp, by simp⟩⟩, Below.refl _ _⟩
    simp [Builtin.append_, run_underlying Tryd.underlying22, sizeOf, typeInfo, hi, Builtin.lenOf, run_firstCells_none, storeCells]
/-- a row stands where the blocks stand that it may lie in -/
theorem own_kept {w w' : World} {lo : Nat} {e : TypeId} {m n : Nat} {v : Value} {xs : List Value} (h : w.ownsRow lo e m v n xs) (hk : ∀ k, lo ≤ k → k < w.heap.size → w'.heap[k]? = w.heap[k]?) : w'.ownsRow lo e m v n xs := by
  refine ⟨h.1, ?_⟩
  rcases h.2 with hn | ⟨g, cap, cur, rfl, h1, h2, rest⟩
  · exact .inl hn
  · refine .inr ⟨g, cap, cur, rfl, h1, ?_, rest⟩
    rw [hk g h1 (Array.getElem?_eq_some_iff.1 h2).1]
    exact h2
theorem Rks.kept {w w' : World} {lo : Nat} {v : Value} {M : List (List ByteArray × Value × Value)} (h : Rks w lo v M) (hk : ∀ k, lo ≤ k → k < w.heap.size → w'.heap[k]? = w.heap[k]?) : Rks w' lo v M :=
  ⟨own_kept h.row hk, fun x hx => own_kept (h.ra x hx) hk, fun x hx => own_kept (h.rb x hx) hk⟩
set_option maxRecDepth 20000 in
set_option maxHeartbeats 4000000 in
/-- what is too much is not gone through -/
theorem tells_far (l : List ByteArray) (A : Option Addr) (cap : Nat) (w : World) (ht : S.Tabs w) (h : Tx w A l) (hl : l.length ≤ 9223372036854775807) (hs : ∀ s ∈ l, s.size ≤ 9223372036850000000) (hb : lgS 0 l = true) :
    Calls Tryd.prog 3 #[.slice A l.length cap] w fun e w' => e = .returned (.bool true) ∧ Below w.heap.size w w' := by
  have C1 := long_any l A cap w h hl hs
  rw [hb] at C1
  have HT := hid ht
  generalize l.length = n at *
  clear h hs hb hl ht
  go_enter Tryd.func3, Tryd.ntmps3
  go_wp2_with fail
  refine C1.mono ?_
  rintro e w1 ⟨rfl, b1⟩
  have B1 := hid b1
  clear b1 C1
  go_wp2_with fail
  refine (awake_any _ (tabs_below HT.out B1.out (Nat.le_refl _))).mono ?_
  rintro e w2 ⟨rfl, b2⟩
  have B2 := hid (B1.out.trans (b2.mono B1.out.size))
  clear b2
  go_wp2_with fail
  go_ret
  exact ⟨rfl, B2.out⟩
theorem back_post {e : Ending} {w w' : World} {lo top : Nat} {L : List (List ByteArray × Nat × Nat)} (h : ∃ v M, e = .returned v ∧ Rks w' w.heap.size v M ∧ M.map (·.1) = L.map (·.1) ∧ Below lo w w' ∧ (∀ k, top ≤ k → k < w.heap.size → w'.heap[k]? = w.heap[k]?)) :
    ∃ v M, e = .returned v ∧ Rks w' w.heap.size v M ∧ M.map (·.1) = L.map (·.1) ∧ Below lo w w' ∧ (∀ k, top ≤ k → k < w.heap.size → w'.heap[k]? = w.heap[k]?) := h
set_option maxRecDepth 20000 in
set_option maxHeartbeats 8000000 in
theorem tells_near (l : List ByteArray) (A : Option Addr) (cap : Nat) (w : World) (ht : S.Tabs w) (h : Tx w A l) (hl : l.length ≤ 9223372036854775807) (hs : ∀ s ∈ l, s.size ≤ 9223372036850000000) (hb : lgS 0 l = false) :
    Calls Tryd.prog 3 #[.slice A l.length cap] w fun e w' => e = .returned (.bool true) ∧ Below w.heap.size w w' := by
  have C1 := long_any l A cap w h hl hs
  rw [hb] at C1
  have hsm := lgS_no l 0 (by decide) hb
  have HR := hid (fun W (h : Tx W A l) => refGather_all l A cap W h (by omega) (by omega))
  have HGa := hid (fun (B : Option Addr) (cb : Nat) W hT (h : Tx W B l) => gather_all l B cb W hT h (by omega) (by omega))
  have HApp := hid (fun (w : World) {g base : Nat} (hg : Has w g #[] 9) (hb : base ≤ g) (h : Tx w A l) => app_tx (cap := cap) hg hb h (by omega))
  have HT0 := hid ht
  have HL := hid h
  have hpl := pkL_len l
  have HPe := hid (pkL_each l)
  obtain ⟨n, hn⟩ : ∃ n, n = l.length := ⟨_, rfl⟩
  have HN := hid hn
  obtain ⟨E, hE⟩ : ∃ E, E = pkE l := ⟨_, rfl⟩
  obtain ⟨K, hK⟩ : ∃ K, K = pkL l := ⟨_, rfl⟩
  have HK := hid hK
  rw [← hn] at C1 HR HGa HApp hsm hpl ⊢
  rw [← hE] at HR HGa
  rw [← hK] at HR HGa HPe hpl
  obtain ⟨Z, hZ⟩ : ∃ Z, Z = bsum K := ⟨_, rfl⟩
  have HZ := hid hZ
  have hnb : n ≤ 4000 := by omega
  have HKl : Hid (K.length ≤ 4000) := hid (by omega)
  clear h hs hb hl ht hn hE hK hZ hsm hpl
  go_enter Tryd.func3, Tryd.ntmps3
  go_wp2_with fail
  refine C1.mono ?_
  rintro e w1 ⟨rfl, b1⟩
  have B1 := hid b1
  clear b1 C1
  have hq1 := Has.new w1 w1.heap.size #[] 9 rfl
  have hb1 : Below w1.heap.size w1 (w1.alloc (.cells #[] 9)) := (Below.refl _ _).alloc (Nat.le_refl _) _
  obtain ⟨v3, w3, hrun, hown, hb3⟩ := HApp.out _ (base := w.heap.size) hq1 B1.out.size (HL.out.below (B1.out.trans (hb1.mono B1.out.size)))
  obtain ⟨B3, c3, ev3, hnn, hin⟩ := own_tx hown
  clear hnn
  rw [← HN.out] at ev3
  subst ev3
  have HRun := hid hrun
  have HIn := hid hin
  have HB3 := hid ((B1.out.trans (hb1.mono B1.out.size)).trans (hb3.mono (by simp; exact Nat.le_succ_of_le B1.out.size)))
  clear hq1 hb1 hrun hown hb3 hin HApp
  go_wp2_with (at_builtin; go_loud (refine wpList_val rfl (rn_app22 rfl rfl rfl rfl HRun.out) ?_))
  clear HRun
  go_loopw [4, 5, 6, 7, 8, 9, 10] (fun v4 _ _ _ _ _ _ wr => ∃ r : Nat, r ≤ 2 ∧ v4 = .int .i64 (r : Int) ∧ Hid (Below w3.heap.size w3 wr)) (fun v4 _ _ _ _ _ _ _ => 2 - (intOf v4).toNat)
  case atStart => exact ⟨0, by omega, rfl, Below.refl _ _⟩
  case round =>
    obtain ⟨r, hr2, rfl, HW⟩ := hrel
    generalize wr = w4 at *
    have HWw := hid (HB3.out.trans (HW.out.mono HB3.out.size))
    by_cases hlt : r < 2
    · have i1 : (r : Int) < 2 := by omega
      have i0 : (0 : Int) ≤ (r : Int) := by omega
      have wi : IntKind.i64.wrap ((r : Int) + 1) = ((r + 1 : Nat) : Int) := by rw [IntKind.wrap_i64]; omega
      have hr1 : r + 1 ≤ 2 := hlt
      go_wp2_with fail
      refine (HGa.out B3 c3 _ (tabs_below HT0.out HWw.out (Nat.le_refl _)) (HIn.out.below HW.out)).mono ?_
      rintro e w5 ⟨v, L, rfl, hp, hm, b5⟩
      obtain ⟨A5, c5, rfl⟩ := hp.slice
      obtain ⟨nl, hnl⟩ : ∃ nl, nl = L.length := ⟨_, rfl⟩
      have HNL := hid hnl
      rw [← hnl] at hp ⊢
      have HP := hid hp
      have HM := hid hm
      have HLl : Hid (L.length ≤ 4000) := hid (by
        have h1 : L.length = K.length := by rw [← hm, List.length_map]
        have := HKl.out
        omega)
      have HB5 := hid b5
      have HX6 := hid (HL.out.below (HWw.out.trans (b5.mono HWw.out.size)))
      clear hp hm b5 hnl
      go_wp2_with fail
      refine (HR.out _ HX6.out).mono ?_
      rintro e w6 ⟨u, M, rfl, hr, hm, b6⟩
      obtain ⟨A6, c6, rfl⟩ := hr.slice
      obtain ⟨nm, hnm⟩ : ∃ nm, nm = M.length := ⟨_, rfl⟩
      have HNM := hid hnm
      rw [← hnm] at hr ⊢
      have HRk := hid hr
      have HMm := hid hm
      have HB6 := hid b6
      have hnm4 : nm ≤ 4000 := by
        have h1 : M.length = K.length := by rw [← hm, List.length_map]
        have := HKl.out
        omega
      clear hr hm b6 hnm HX6
      go_wp2_with fail
      go_loopw [9, 10] (fun v9 v10 wz => ∃ k : Nat, k ≤ nm ∧ v10 = .int .i64 (k : Int) ∧ v9 = .int .i64 (bsum ((M.map (·.1)).take k) : Int) ∧ Hid (Below w6.heap.size w6 wz)) (fun _ v10 _ => nm - (intOf v10).toNat)
      case atStart => exact ⟨0, Nat.zero_le _, rfl, rfl, Below.refl _ _⟩
      case round =>
        obtain ⟨k, hk, rfl, rfl, HB⟩ := hrel
        by_cases hlk : k < nm
        · have hkl : k < M.length := by rw [← HNM.out]; exact hlk
          obtain ⟨x, hx⟩ : ∃ x, M[k]? = some x := ⟨_, List.getElem?_eq_getElem hkl⟩
          obtain ⟨g, eA, _, hg, q0, _, _, _⟩ := HRk.out.cells k x hx
          subst eA
          have q1 : wr.cell? ⟨g, k * 4, none⟩ = some (.string (pb x.1)) := (HB.out.cell (p := ⟨g, k * 4, none⟩) hg).trans q0
          have hx2 : (M.map (·.1))[k]? = some x.1 := by rw [List.getElem?_map, hx]; rfl
          have hbt := bsum_take hx2
          have hbl : bsum ((M.map (·.1)).take (k + 1)) ≤ (k + 1) * 100000 := by
            refine Nat.le_trans (bsum_le (m := 100000) fun p hp => (HPe.out p (by rw [← HMm.out]; exact List.mem_of_mem_take hp)).2) ?_
            rw [List.length_take]; exact Nat.mul_le_mul_right _ (Nat.min_le_left _ _)
          have HBT := hid hbt
          have i3 : (k : Int) < (nm : Int) := by omega
          have i30 : (0 : Int) ≤ (k : Int) := by omega
          have wk : IntKind.i64.wrap ((k : Int) + 1) = ((k + 1 : Nat) : Int) := by rw [IntKind.wrap_i64]; omega
          have wz : IntKind.i64.wrap ((bsum ((M.map (·.1)).take k) : Int) + ((pb x.1).size : Int)) = ((bsum ((M.map (·.1)).take k) + (pb x.1).size : Nat) : Int) := by rw [IntKind.wrap_i64]; omega
          have hxk : k + 1 ≤ nm := hlk
          clear hbl hbt hx2 hx q0 hkl
          generalize bsum ((M.map (·.1)).take k) = z at *
          generalize pb x.1 = P at *
          go_wp2_with fail
          go_roundw
          case rel => exact ⟨k + 1, hxk, by rfl, by rw [HBT.out]; first | rfl | simp, HB⟩
          case measure => first | (simp [intOf]; done) | (simp [intOf]; omega)
        · obtain rfl : nm = k := by omega
          have i3 : ¬ ((nm : Int) < (nm : Int)) := by omega
          have e9 : bsum ((M.map (·.1)).take nm) = Z := by rw [HNM.out, HZ.out, ← HMm.out]; congr 1; exact List.take_of_length_le (by rw [List.length_map]; exact Nat.le_refl _)
          rw [e9]
          generalize wr = w7 at *
          have HP7 := hid (HP.out.below (HB6.out.trans (HB.out.mono HB6.out.size)) (Nat.le_refl _))
          have HR7 := hid (HRk.out.below HB.out (Nat.le_refl _))
          have HW7 := hid (HB5.out.trans ((HB6.out.trans (HB.out.mono HB6.out.size)).mono HB5.out.size))
          have HBy := hid (fun W (h : Pks W w4.heap.size (.slice A5 nl c5) L) => bytes_any L w4.heap.size A5 c5 W (by rw [← HNL.out]; exact h) (by have := HLl.out; omega) (fun p hp => (HPe.out p (by rw [← HM.out]; exact hp)).2))
          rw [← HNL.out, HM.out, ← HZ.out] at HBy
          have HBk := hid (fun W (h : Pks W w4.heap.size (.slice A5 nl c5) L) (hlo : w4.heap.size ≤ W.heap.size) (htop : w5.heap.size ≤ W.heap.size) => back_any L w4.heap.size A5 c5 W (by rw [← HNL.out]; exact h) hlo w5.heap.size htop HP.out.lts (by have := HLl.out; omega) (fun x hx => Nat.le_trans (HPe.out x.1 (by rw [← HM.out]; exact List.mem_map_of_mem hx)).1 (by omega)))
          rw [← HNL.out] at HBk
          have hs45 := HB5.out.size
          have hs57 := (HB6.out.trans (HB.out.mono HB6.out.size)).size
          clear e9
          go_wp2_with fail
          refine (HBy.out _ HP7.out).mono ?_
          rintro e w8 ⟨rfl, b8⟩
          have hs78 := b8.size
          have HP8 := hid (HP7.out.below b8 (Nat.le_refl _))
          have HR8 := hid (HR7.out.below b8 (Nat.le_refl _))
          have HW8 := hid (HW7.out.trans (b8.mono (by omega)))
          clear b8 HP7 HR7 HW7 HBy
          go_wp2_with fail
          refine (HBk.out _ HP8.out (by omega) (by omega)).mono ?_
          rintro e w9 HPOST
          obtain ⟨vb, Mb, rfl, hrb, hmb, hbl, hkp⟩ := back_post HPOST
          clear HPOST
          obtain ⟨A9, c9, rfl⟩ := hrb.slice
          have HS := same_any Mb M _ _ A9 A6 c9 c6 w9 hrb (by rw [← HNM.out]; exact HR8.out.kept hkp) (by rw [hmb, HM.out, HMm.out]) (by have := HLl.out; have h1 := congrArg List.length hmb; rw [List.length_map, List.length_map] at h1; omega) (fun x hx => Nat.le_trans (HPe.out x.1 (by rw [← HM.out, ← hmb]; exact List.mem_map_of_mem hx)).1 (by omega))
          rw [← HNM.out] at HS
          have HW9 := hid (HW8.out.trans hbl)
          have hs49 := HW9.out.size
          obtain ⟨nb, hnb9⟩ : ∃ nb, nb = Mb.length := ⟨_, rfl⟩
          rw [← hnb9] at HS ⊢
          have HS := hid HS
          clear hrb hmb hbl hkp hnb9
          go_wp2_with fail
          refine HS.out.mono ?_
          rintro e w10 ⟨rfl, b10⟩
          have HWn := hid (HW.out.trans ((HW9.out.trans (b10.mono hs49)).mono HW.out.size))
          clear b10
          go_wp2_with fail
          go_roundw
          case rel => exact ⟨r + 1, hr1, by rfl, HWn⟩
          case measure => first | (simp [intOf]; done) | (simp [intOf]; omega)
    · obtain rfl : r = 2 := by omega
      have HL4 := hid (HL.out.below HWw.out)
      have HI4 := hid (HIn.out.below HW.out)
      clear HR HGa
      go_wp2_with fail
      go_loopw [11] (fun v11 wz => ∃ k : Nat, k ≤ n ∧ v11 = .int .i64 (k : Int) ∧ Hid (Below w4.heap.size w4 wz)) (fun v11 _ => n - (intOf v11).toNat)
      case atStart => exact ⟨0, Nat.zero_le _, rfl, Below.refl _ _⟩
      case round =>
        obtain ⟨k, hk, rfl, HB⟩ := hrel
        by_cases hlk : k < n
        · have hkl : k < l.length := by rw [← HN.out]; exact hlk
          obtain ⟨g1, o1, rfl, hg1, q1⟩ := tx_cell HL4.out HB.out hkl
          obtain ⟨g2, o2, rfl, hg2, q2⟩ := tx_cell HI4.out HB.out hkl
          generalize l.getD k ⟨#[]⟩ = s at *
          have i3 : (k : Int) < (n : Int) := by omega
          have i30 : (0 : Int) ≤ (k : Int) := by omega
          have wk : IntKind.i64.wrap ((k : Int) + 1) = ((k + 1 : Nat) : Int) := by rw [IntKind.wrap_i64]; omega
          have hxk : k + 1 ≤ n := hlk
          clear hkl hg1 hg2
          go_wp2_with fail
          go_quiet (fail)
          go_wp2_with fail
          go_roundw
          case rel => exact ⟨k + 1, hxk, by rfl, below_draws HB.out _⟩
          case measure => first | (simp [intOf]; done) | (simp [intOf]; omega)
        · obtain rfl : n = k := by omega
          have i3 : ¬ ((n : Int) < (n : Int)) := by omega
          generalize wr = w5 at *
          have HWe := hid (HWw.out.trans (HB.out.mono HWw.out.size))
          go_wp2_with fail
          refine (awake_any _ (tabs_below HT0.out HWe.out (Nat.le_refl _))).mono ?_
          rintro e w6 ⟨rfl, b6⟩
          have HWf := hid (HWe.out.trans (b6.mono HWe.out.size))
          clear b6
          go_wp2_with fail
          go_ret
          exact ⟨rfl, HWf.out⟩
theorem tells_walk (l : List ByteArray) (A : Option Addr) (cap : Nat) (w : World) (ht : S.Tabs w) (h : Tx w A l) (hl : l.length ≤ 9223372036854775807) (hs : ∀ s ∈ l, s.size ≤ 9223372036850000000) :
    Calls Tryd.prog 3 #[.slice A l.length cap] w fun e w' => e = .returned (.bool true) ∧ Below w.heap.size w w' := by
  cases hb : lgS 0 l with
  | true => exact tells_far l A cap w ht h hl hs hb
  | false => exact tells_near l A cap w ht h hl hs hb
end Go.Proofs.YtjhjolnflkekoaaDoor
