/- The document's Decode. -/
import Derived.Test.YtfbjpgcgdhhfnaaCDec
import Derived.BigQuiet
namespace Go.Proofs.Ytfbjpgcgdhhfnaa
open Go.RowKit
theorem lit5 : (⟨#[0, 0, 0, 0, 0]⟩ : ByteArray).toList = [0, 0, 0, 0, 0] := by
  rw [ByteArray.toList_eq]
theorem pad_nn {b : List Nat} (h : b.length ≤ 32768) : pad b 5 * 65536 + pad b 6 * 256 + pad b 7 = b.length := by
  obtain ⟨_, _, _, _, _, e5, e6, e7⟩ := len_small h
  have h5 : pad b 5 = lenB b.length 5 := rfl
  have h6 : pad b 6 = lenB b.length 6 := rfl
  have h7 : pad b 7 = lenB b.length 7 := rfl
  rw [h5, h6, h7, e5, e6, e7]
  omega
theorem pad_5 {b : List Nat} (h : b.length ≤ 32768) : rowN 5 (pad b) = [0, 0, 0, 0, 0] := by
  obtain ⟨e0, e1, e2, e3, e4, _⟩ := len_small h
  have h5 : rowN 5 (pad b) = [lenB b.length 0, lenB b.length 1, lenB b.length 2, lenB b.length 3, lenB b.length 4] := rfl
  rw [h5, e0, e1, e2, e3, e4]
theorem rn_at32 {ev : Operand → Value} {o : Oper} {w : World} {x y : Operand} {g q n c k : Nat} (ho : o.op = .indexAddr 32 x y) (hx : ev x = .slice (some ⟨g, q, none⟩) n c) (hy : ev y = .int .i64 (k : Int)) (h : k < n) : (execOp ev o).run Try.prog w = .ok (.value (.pointer (some ⟨g, q + k, none⟩))) w := by
  have h1 : (k : Int) < (n : Int) := by omega
  simp [execOp, ho, hx, hy, go_sem, h1]
theorem byte_at {l : List Nat} (hl : ∀ x ∈ l, x < 256) {k : Nat} (h : k < l.length) : ∃ hk : k < (ofBs l).size, ((ofBs l)[k]'hk).toNat = l.getD k 0 := by
  refine ⟨by rw [ofBs_size]; exact h, ?_⟩
  have e := bs_ofBs l hl
  conv => rhs; rw [← e]
  rw [List.getD_eq_getElem?_getD, List.getElem?_eq_getElem (by rw [bs_length, ofBs_size]; exact h)]
  simp [bs]
  rfl
theorem rn_index9 {ev : Operand → Value} {o : Oper} {w : World} {x y : Operand} {l : List Nat} {k : Nat} (ho : o.op = .index 9 x y) (hx : ev x = .string (ofBs l)) (hy : ev y = .int .i64 (k : Int)) (hl : ∀ x ∈ l, x < 256) (h : k < l.length) : (execOp ev o).run Try.prog w = .ok (.value (.int .u8 ((l.getD k 0 : Nat) : Int))) w := by
  obtain ⟨hk, e⟩ := byte_at hl h
  have h1 : (k : Int) < ((ofBs l).size : Int) := by rw [ofBs_size]; omega
  rw [← e]
  simp [execOp, ho, hx, hy, go_sem, h1]
theorem rn_index9v {ev : Operand → Value} {o : Oper} {w : World} {x y : Operand} {l : List Nat} {k v : Nat} (ho : o.op = .index 9 x y) (hx : ev x = .string (ofBs l)) (hy : ev y = .int .i64 (k : Int)) (hl : ∀ x ∈ l, x < 256) (h : k < l.length) (hv : l.getD k 0 = v) : (execOp ev o).run Try.prog w = .ok (.value (.int .u8 (v : Int))) w := by
  rw [← hv]; exact rn_index9 ho hx hy hl h
theorem rn_assign {ev : Operand → Value} {o : Oper} {w : World} {x : Operand} {v : Value} (ho : o.op = .assign x) (hx : ev x = v) : (execOp ev o).run Try.prog w = .ok (.value v) w := by
  subst hx; simp [execOp, ho, go_sem]
theorem take_ints {w : World} {gz oz cz n K : Nat} {zs : List Int} (hg : gz < w.heap.size) (hc : ∀ j, j < n → w.cell? ⟨gz, oz + j, none⟩ = some (.int .i64 (zs.getD j 0))) (hK : K ≤ n) (hn : zs.length = n) (h63 : n ≤ 9223372036854775807) : Mx.Ints w (.slice (some ⟨gz, oz, none⟩) K cz) (zs.take K) := by
  have hl : (zs.take K).length = K := by rw [List.length_take]; omega
  refine ⟨_, cz, by rw [hl], by rw [hl]; omega, fun _ => ⟨gz, oz, rfl, hg, fun j hj => ?_⟩⟩
  rw [hl] at hj
  rw [hc j (by omega), List.getD_eq_getElem?_getD, List.getD_eq_getElem?_getD, List.getElem?_take, if_pos hj]
/-- what Decode answers, as an ending -/
def DecAns (K N : Int) (zs : List Int) (ps : List (List Nat)) (w w' : World) (e : Ending) : Prop := ∃ s er, e = .returned (.tuple #[.string (ofBs s), .int .i64 er]) ∧ DecIs K N zs ps s er ∧ Below w.heap.size w w'
theorem DecAns.refused {K N : Int} {zs : List Int} {ps : List (List Nat)} {w w' : World} {e : Ending} {er : Int} (he : e = .returned (.tuple #[.string ⟨#[]⟩, .int .i64 er])) (hd : DecIs K N zs ps [] er) (hb : Below w.heap.size w w') : DecAns K N zs ps w w' e :=
  ⟨[], er, he, hd, hb⟩
set_option maxRecDepth 20000 in
theorem refDec_no (K N : Int) (vz vp : Value) (zs : List Int) (ps : List (List Nat)) (w : World) (hz : Ints64 w vz zs) (hp : Strs w vp ps) (hno : ¬ (Mx.mayC K N = true ∧ zs.length = ps.length)) :
    Calls Try.prog 16 #[cv K N, vz, vp] w fun e w' => DecAns K N zs ps w w' e := by
  have bA : Below w.heap.size w (w.alloc (.cells #[.int .i64 K, .int .i64 N] 24)) := (Below.refl _ _).alloc (Nat.le_refl _) _
  have hmc := Mx.refMayCode_any K N (w.alloc (.cells #[.int .i64 K, .int .i64 N] 24))
  have hd : DecIs K N zs ps [] 1 := .inl ⟨fun h => hno ⟨h.1, h.2.1⟩, rfl, rfl⟩
  have HD := hid hd
  obtain ⟨⟨az, cz, hvz, _⟩, _⟩ := hz
  obtain ⟨ap, cp, hvp, _⟩ := hp
  subst hvz
  subst hvp
  clear hd
  unfold cv
  cases hm : Mx.mayC K N with
  | false =>
    go_enter Try.func16, Try.ntmps16
    go_wp2_with fail
    refine hmc.mono ?_
    rintro e w1 ⟨rfl, b1⟩
    rw [hm]
    go_wp2_with fail
    go_ret2
    exact DecAns.refused rfl HD.out (belowCall bA b1)
  | true =>
    have e0 := beq_nat' zs.length ps.length (fun h => hno ⟨hm, h⟩)
    go_enter Try.func16, Try.ntmps16
    go_wp2_with fail
    refine hmc.mono ?_
    rintro e w1 ⟨rfl, b1⟩
    rw [hm]
    go_wp2_with fail
    go_ret2
    exact DecAns.refused rfl HD.out (belowCall bA b1)
set_option maxRecDepth 20000 in
set_option maxHeartbeats 8000000 in
theorem refDec_pre (K N : Nat) (vz vp : Value) (zs : List Int) (ps : List (List Nat)) (w : World) (h1 : 1 ≤ K) (h2 : K ≤ N) (h3 : N ≤ 12) (hz : Ints64 w vz zs) (hcap : ∀ a n cap, vz = .slice a n cap → n ≤ cap ∧ cap ≤ 9223372036854775807) (hp : Strs w vp ps) (hl : zs.length = ps.length) :
    Calls Try.prog 16 #[cv K N, vz, vp] w fun e w' => DecAns K N zs ps w w' e := by
  have hm : Mx.mayC K N = true := by unfold Mx.mayC; simp; omega
  have bA : Below w.heap.size w (w.alloc (.cells #[.int .i64 (K : Int), .int .i64 (N : Int)] 24)) := (Below.refl _ _).alloc (Nat.le_refl _) _
  have hbox : Has (w.alloc (.cells #[.int .i64 (K : Int), .int .i64 (N : Int)] 24)) w.heap.size #[.int .i64 (K : Int), .int .i64 (N : Int)] 24 := Has.new w w.heap.size _ 24 rfl
  have hmc := Mx.refMayCode_any K N (w.alloc (.cells #[.int .i64 (K : Int), .int .i64 (N : Int)] 24))
  have HPs := hid hp
  have HZ := hid hz
  obtain ⟨⟨az, cz, hvz, hzl, hcz⟩, hwf⟩ := hz
  obtain ⟨ap, cp, hvp, hpl, hpx, hcp⟩ := hp
  subst hvz
  subst hvp
  obtain ⟨hcz1, hcz2⟩ := hcap _ _ _ rfl
  have HCz := hid hcz
  have HCp := hid hcp
  have HL := hid hl
  have e0 : ((zs.length : Int) != (ps.length : Int)) = false := by rw [hl]; simp
  have HD1 : Hid (¬ goodZ N zs → DecIs K N zs ps [] 1) := fun h => .inl ⟨fun hh => h hh.2.2, rfl, rfl⟩
  have HD54 : Hid (goodZ N zs → (zs.length : Int) < (K : Int) → DecIs K N zs ps [] 54) := fun h h' => .inr (.inl ⟨⟨hm, hl, h⟩, h', rfl, rfl⟩)
  have HD4 : Hid (goodZ N zs → ¬ (zs.length : Int) < (K : Int) → (¬ ∃ b, IsOf K zs ps b) → DecIs K N zs ps [] 4) := fun h h' h'' => .inr (.inr ⟨⟨hm, hl, h⟩, h', .inr ⟨h'', rfl, rfl⟩⟩)
  have HD0 : Hid (goodZ N zs → ¬ (zs.length : Int) < (K : Int) → ∀ bb, IsOf K zs ps bb → DecIs K N zs ps bb 0) := fun h h' bb h'' => .inr (.inr ⟨⟨hm, hl, h⟩, h', .inl ⟨h'', rfl⟩⟩)
  clear hcz hcp hl hcap hwf hpx
  unfold cv
  go_enter Try.func16, Try.ntmps16
  go_wp2_with fail
  refine hmc.mono ?_
  rintro e w1 ⟨rfl, b1⟩
  rw [hm]
  have B1 := belowCall bA b1
  have hb1 := hbox.below b1 (by simp)
  have hbl1 := hb1.lt
  clear b1 hmc bA hbox
  go_wp2_with fail
  generalize hnz : zs.length = n at *
  go_loopg [8] n (fun g1 s8 wx => ∃ i : Nat, i + g1 = n ∧ s8 = .int .i64 (i : Int) ∧ Hid (∀ j, j < i → (0 ≤ zs.getD j 0 ∧ zs.getD j 0 < (N : Int)) ∧ ∀ k, k < j → zs.getD k 0 ≠ zs.getD j 0) ∧ Below w1.heap.size w1 wx)
  case atStart => exact ⟨0, by omega, rfl, fun j hj => absurd hj (by omega), Below.refl _ _⟩
  case round =>
    obtain ⟨i, hig, rfl, hj, hbi⟩ := hrel
    have Bi := belowCall B1 hbi
    have hbxi := hb1.below hbi hbl1
    have c1 : wr.cell? ⟨w.heap.size, 1, none⟩ = some (.int .i64 (N : Int)) := hbxi.cell 1
    have c0 : wr.cell? ⟨w.heap.size, 0, none⟩ = some (.int .i64 (K : Int)) := hbxi.cell 0
    cases gk with
    | succ g1 =>
      have hzi : (i : Int) < (n : Int) := by omega
      have hi : i < n := by omega
      obtain ⟨gz, oz, haz, hgz, hdz⟩ := HCz.out (by omega)
      subst haz
      have q0 := cell_below Bi hgz (hdz i hi)
      obtain ⟨zi, hzz⟩ : ∃ zi, Hid (zi = zs.getD i 0) := ⟨_, rfl⟩
      rw [← hzz.out] at q0
      have HDz := hid hdz
      clear hdz
      by_cases hneg : zi < 0
      · have d1 : decide (zi < 0) = true := decide_eq_true hneg
        have HD := hid (HD1.out fun hg => by have := (hg i (by omega)).1; rw [← hzz.out] at this; omega)
        go_wp2_with fail
        go_quiet (fail)
        go_wp2_with fail
        go_ret2
        exact DecAns.refused rfl HD.out (below_drewN Bi _)
      · have d1 : decide (zi < 0) = false := decide_eq_false hneg
        by_cases hbig : (N : Int) ≤ zi
        · have d2 : decide ((N : Int) ≤ zi) = true := decide_eq_true hbig
          have HD := hid (HD1.out fun hg => by have := (hg i (by omega)).1; rw [← hzz.out] at this; omega)
          go_wp2_with fail
          go_quiet (fail)
          go_wp2_with fail
          go_ret2
          exact DecAns.refused rfl HD.out (below_drewN Bi _)
        · have d2 : decide ((N : Int) ≤ zi) = false := decide_eq_false hbig
          go_wp2_with fail
          go_quiet (fail)
          go_wp2_with fail
          go_loopg [9] i (fun g2 s9 wx => ∃ k : Nat, k + g2 = i ∧ s9 = .int .i64 (k : Int) ∧ Hid (∀ j, j < k → zs.getD j 0 ≠ zi) ∧ Below w1.heap.size w1 wx)
          case atStart => exact ⟨0, by omega, rfl, fun j hj => absurd hj (by omega), below_drewN hbi _⟩
          case round =>
            obtain ⟨k, hkg, rfl, hne, hbk⟩ := hrel
            have Bk := belowCall B1 hbk
            clear q0 c0 c1 hbxi
            cases gk with
            | zero =>
              have hzk : ¬ ((k : Int) < (i : Int)) := by omega
              have hj' : Hid (∀ j, j < i + 1 → (0 ≤ zs.getD j 0 ∧ zs.getD j 0 < (N : Int)) ∧ ∀ k, k < j → zs.getD k 0 ≠ zs.getD j 0) := fun j hji => by
                by_cases hlt : j < i
                · exact hj.out j hlt
                · obtain rfl : j = i := by omega
                  rw [← hzz.out]
                  exact ⟨by omega, fun k' hk' => hne.out k' (by omega)⟩
              clear hj hne
              go_wp2_with fail
              go_roundg g1
              case measure => omega
              case rel => exact ⟨i + 1, by omega, by first | rfl | simp, hj', hbk⟩
            | succ g2 =>
              have hzk : (k : Int) < (i : Int) := by omega
              have hki : k < i := by omega
              have hkn : (k : Int) < (n : Int) := by omega
              have q0 := cell_below Bk hgz (HDz.out i hi)
              have qk := cell_below Bk hgz (HDz.out k (by omega))
              rw [← hzz.out] at q0
              obtain ⟨zk, hzk'⟩ : ∃ zk, Hid (zk = zs.getD k 0) := ⟨_, rfl⟩
              rw [← hzk'.out] at qk
              by_cases heq : zk = zi
              · have d3 : (zk == zi) = true := by simp [heq]
                have HD := hid (HD1.out fun hg => (hg i (by omega)).2 k hki (by rw [← hzk'.out, ← hzz.out]; exact heq))
                clear hj hne heq
                go_wp2_with fail
                go_quiet (fail)
                go_wp2_with fail
                go_ret2
                exact DecAns.refused rfl HD.out (below_drewN Bk _)
              · have d3 : (zk == zi) = false := by simp [heq]
                have hne' : Hid (∀ j, j < k + 1 → zs.getD j 0 ≠ zi) := fun j hjk => by
                  by_cases hlt : j < k
                  · exact hne.out j hlt
                  · obtain rfl : j = k := by omega
                    rw [← hzk'.out]; exact heq
                clear hj hne heq
                go_wp2_with fail
                go_quiet (fail)
                go_wp2_with fail
                go_roundg g2
                case measure => omega
                case rel => exact ⟨k + 1, by omega, by first | rfl | simp, hne', below_drewN hbk _⟩
    | zero =>
      have hzi : ¬ ((i : Int) < (n : Int)) := by omega
      have hg : goodZ N zs := fun j hj' => hj.out j (by omega)
      clear hj
      by_cases hfew : n < K
      · have d1 : (n : Int) < (K : Int) := by omega
        have HD := hid (HD54.out hg (by omega))
        go_wp2_with fail
        go_ret2
        exact DecAns.refused rfl HD.out Bi
      · have d1 : ¬ (n : Int) < (K : Int) := by omega
        have HD4' := hid (HD4.out hg (by omega))
        have HD0' := hid (HD0.out hg (by omega))
        have HG := hid hg
        clear HD1 HD54 HD4 HD0 hg
        obtain ⟨gz, oz, haz, hgz, hdz⟩ := HCz.out (by omega)
        subst haz
        obtain ⟨gp, op, hap, hgp, hdp⟩ := HCp.out (by rw [← HL.out]; omega)
        subst hap
        have HDz := hid hdz
        have HDp : Hid (∀ W, Below w.heap.size w W → ∀ j, j < n → W.cell? ⟨gp, op + j, none⟩ = some (.string (ofBs (ps.getD j [])))) := fun W hW j hj => cell_below hW hgp (hdp j (by rw [← HL.out]; exact hj))
        have hpn := HL.out
        have HPN := hid hpn
        rw [← hpn]
        clear hdz hdp HCz HCp hpn HL
        obtain ⟨p0, hp0⟩ : ∃ p0, Hid (p0 = ps.getD 0 []) := ⟨_, rfl⟩
        have q0 := HDp.out wr Bi 0 (by omega)
        rw [← hp0.out, Nat.add_zero] at q0
        have hsz : Hid (∀ l : List Nat, (ofBs l).size = l.length) := ofBs_size
        have hq0 := hsz.out p0
        have hn0 : (0 : Int) < (n : Int) := by omega
        obtain ⟨z, hzd⟩ : ∃ z, Hid (z = p0.length) := ⟨_, rfl⟩
        rw [← hzd.out] at hq0
        obtain ⟨w2, hw2⟩ : ∃ w2, w2 = wr := ⟨_, rfl⟩
        subst hw2
        go_wp2_with fail
        go_loopg [11] n (fun g2 s11 wx => ∃ j : Nat, j + g2 = n ∧ s11 = .int .i64 (j : Int) ∧ Hid (∀ t, t < j → (ps.getD t []).length = z) ∧ wx = w2)
        case atStart => exact ⟨0, by omega, rfl, fun j hj => absurd hj (by omega), rfl⟩
        case round =>
          obtain ⟨j, hjg, rfl, hle, rfl⟩ := hrel
          cases gk with
          | succ g2 =>
            have hzj : (j : Int) < (n : Int) := by omega
            have qj := HDp.out wr Bi j (by omega)
            obtain ⟨pj, hpj⟩ : ∃ pj, Hid (pj = ps.getD j []) := ⟨_, rfl⟩
            rw [← hpj.out] at qj
            have hqj := hsz.out pj
            clear q0
            by_cases he : pj.length = z
            · have e1 : ((pj.length : Int) != (z : Int)) = false := by rw [he]; simp
              have hle' : Hid (∀ t, t < j + 1 → (ps.getD t []).length = z) := fun t ht => by
                by_cases hlt : t < j
                · exact hle.out t hlt
                · obtain rfl : t = j := by omega
                  rw [← hpj.out]; exact he
              clear hle he
              go_wp2_with fail
              go_roundg g2
              case measure => omega
              case rel => exact ⟨j + 1, by omega, by first | rfl | simp, hle', rfl⟩
            · have e1 := beq_nat' _ _ he
              have HD := hid (HD4'.out fun ⟨b', hb'⟩ => he (by
                rw [hpj.out, hzd.out, hp0.out, hb'.2.2 j (by omega), hb'.2.2 0 (by omega), payL_length, payL_length]))
              clear hle he
              go_wp2_with fail
              go_ret2
              exact DecAns.refused rfl HD.out Bi
          | zero =>
            have hzj : ¬ ((j : Int) < (n : Int)) := by omega
            have HLe : Hid (∀ t, t < n → (ps.getD t []).length = z) := fun t ht => hle.out t (by omega)
            clear hle q0
            go_wp2_with fail
            refine (Mx.refOf_t K N h1 h2 h3 wr).mono ?_
            rintro e w3 ⟨rm, rfl, hmat, b3⟩
            have B3 := belowCall Bi b3
            have hbx3 := hbxi.below b3 hbxi.lt
            have c0' : w3.cell? ⟨w.heap.size, 0, none⟩ = some (.int .i64 (K : Int)) := hbx3.cell 0
            obtain ⟨s, hs⟩ : ∃ s : Nat → Nat, Hid (s = fun i => (zs.getD i 0).toNat) := ⟨_, rfl⟩
            have hKn : K ≤ n := by omega
            have hch : Chosen K N zs (fun i => i) s := by rw [hs.out]; exact chosen_first HG.out (by omega)
            have HCh := hid hch
            obtain ⟨S, hS⟩ : ∃ S, Hid (S = (zs.take K).map Int.toNat) := ⟨_, rfl⟩
            have hSl : S.length = K := by rw [hS.out, List.length_map, List.length_take]; omega
            have hSg : ∀ i, i < K → S.getD i 0 = s i := fun i hi => by
              have hiz : i < zs.length := by omega
              rw [hS.out, hs.out, List.getD_eq_getElem?_getD, List.getElem?_map, List.getElem?_take, if_pos hi, List.getElem?_eq_getElem hiz]
              simp [List.getD_eq_getElem?_getD, List.getElem?_eq_getElem hiz]
            have hSm : ∀ x ∈ S, x < N := fun x hx => by
              obtain ⟨i, hi, rfl⟩ := List.getElem_of_mem hx
              have := hSg i (by omega)
              rw [List.getD_eq_getElem?_getD, List.getElem?_eq_getElem hi] at this
              simp only [Option.getD_some] at this
              rw [this]; exact hch.bd i (by omega)
            have hSz : (S.map fun x : Nat => (x : Int)) = zs.take K := by
              apply ext_getD 0
              · rw [List.length_map, hSl, List.length_take]; omega
              · intro i hi
                rw [List.length_map, hSl] at hi
                have h5 := hch.is i hi
                have h6 := hSg i hi
                have hiS : i < S.length := by omega
                rw [List.getD_eq_getElem?_getD, List.getElem?_map, List.getElem?_eq_getElem hiS, List.getD_eq_getElem?_getD, List.getElem?_take, if_pos hi, ← List.getD_eq_getElem?_getD]
                rw [List.getD_eq_getElem?_getD, List.getElem?_eq_getElem hiS] at h6
                simp only [Option.getD_some] at h6
                simp only [Option.map_some, Option.getD_some]
                rw [h6]; exact h5.symm
            obtain ⟨r1, r2, r3, r4, r5⟩ := rows_of K N S h1 h2 h3 hSl hSm
            rw [hSz] at r2 r3 r4 r5
            have hints : Mx.Ints w3 (.slice (some ⟨gz, oz, none⟩) K cz) (zs.take K) := take_ints (n := n) (Nat.lt_of_lt_of_le hgz B3.size) (fun j hj => cell_below B3 hgz (HDz.out j hj)) hKn hnz (by omega)
            have hrw := Mx.refRows_any rm _ (Mx.ofM K N) (zs.take K) w3 hmat hints
            have er : Mx.errR (Mx.ofM K N) (zs.take K) = 0 ∧ Mx.ansR (Mx.ofM K N) (zs.take K) = Mx.rowsM (Mx.ofM K N) (zs.take K) := by
              unfold Mx.errR Mx.ansR; rw [r1, r2]; exact ⟨rfl, rfl⟩
            rw [er.1, er.2] at hrw
            have HRws := hid hrw
            obtain ⟨mr, hmr⟩ : ∃ mr, Hid (mr = Mx.rowsM (Mx.ofM K N) (zs.take K)) := ⟨_, rfl⟩
            rw [← hmr.out] at HRws r3 r4 r5
            obtain ⟨t1, f, t2, t3⟩ := turn_of K mr s h1 (by omega) r3 r4 (fun i hi j hj => by rw [r5 i hi j hj, hSg i hi]) hch.inj (fun i hi => by have := hch.bd i hi; omega)
            have HT2 := hid t2
            have HT3 := hid t3
            have dK : (K : Int) ≤ (cz : Int) := by omega
            have dz0 : ¬ cz = 0 := by omega
            clear hmat hints hrw er r1 r2 r3 r4 r5 t2 t3 hSl hSg hSm hSz c0 c1 b3 hch hzd
            go_wp2_with fail
            refine HRws.out.mono ?_
            rintro e w4 ⟨rr, rfl, hmr4, b4⟩
            have hMr : Mat w4 rr mr := hmr4
            have htn := refTurn_any rr mr w4 hMr
            rw [t1] at htn
            have HTn := hid htn
            have B4 := belowCall B3 b4
            have hbx4 := hbx3.below b4 hbx3.lt
            clear hmr4 hMr htn HRws t1 hbx3 b4 c0'
            go_wp2_with fail
            refine HTn.out.mono ?_
            rintro e w5 ⟨rb, rfl, hMb, b5⟩
            have B5 := belowCall B4 b5
            have hbx5 := hbx4.below b5 hbx4.lt
            have hal : (ansT mr).length = K := by rw [HT2.out, rowsOf_length]
            obtain ⟨gb, ob, cb, hrb, _, hgb, hrows⟩ := hMb.some (by omega)
            rw [hal] at hrb
            subst hrb
            obtain ⟨V, hV⟩ : ∃ V, Hid (V = El.inve K (fun i j => Mx.ofVal K (s i) j)) := ⟨_, rfl⟩
            have HVb : Hid (El.Byt V) := by unfold Hid; rw [hV.out]; exact El.byt_inve K (fun _ _ => Mx.ofVal_lt _ _ _)
            have HBk : Hid (∀ W, Below w5.heap.size w5 W → ∀ j, j < K → ∀ k, k < K → ∃ gi oi ci, W.cell? ⟨gb, ob + j, none⟩ = some (.slice (some ⟨gi, oi, none⟩) K ci) ∧ W.cell? ⟨gi, oi + k, none⟩ = some (.int .u8 ((V j k : Nat) : Int))) := fun W hW j hj k hk => by
              obtain ⟨r, k1, k2⟩ := hrows j (by omega)
              have hrl : ((ansT mr).getD j []).length = K := by rw [HT2.out, rowsOf_row _ _ _ _ hj]; simp
              obtain ⟨gi, oi, ci, rfl, _, _, k3, k4⟩ := k2.some (by omega)
              rw [hrl] at k1 k4
              have k5 := k4 k hk
              rw [HT2.out, rowsOf_row _ _ _ _ hj, range_getD _ _ _ hk, HT3.out j hj k hk, ← hV.out] at k5
              exact ⟨gi, oi, ci, cell_below hW hgb k1, cell_below hW k3 k5⟩
            have HBx : Hid (∀ W, Below w5.heap.size w5 W → W.cell? ⟨w.heap.size, 0, none⟩ = some (.int .i64 (K : Int)) ∧ W.cell? ⟨w.heap.size, 1, none⟩ = some (.int .i64 (N : Int))) := fun W hW => ⟨(hbx5.below hW hbx5.lt).cell 0, (hbx5.below hW hbx5.lt).cell 1⟩
            clear hMb hrows HTn hbx4 hal b5 hbx5 hgb HT2 HT3
            by_cases hzbig : 40000 < z
            · have d4 : decide ((40000 : Int) < (z : Int)) = true := by simp; omega
              have HD := hid (HD4'.out fun ⟨b', hb'⟩ => by
                have h5 := HLe.out 0 (by omega)
                rw [hb'.2.2 0 (by omega), payL_length] at h5
                have h6 := sz_le K b'.length h1
                have h7 := hb'.1
                omega)
              go_wp2_with fail
              go_ret2
              exact DecAns.refused rfl HD.out B5
            · have d4 : decide ((40000 : Int) < (z : Int)) = false := by simp; omega
              obtain ⟨D, hD⟩ : ∃ D, Hid (D = flatD K z s (fun i t => (ps.getD i []).getD t 0)) := ⟨_, rfl⟩
              have HDb : Hid (∀ i, D i < 256) := fun i => by rw [hD.out]; exact dat_lt _ _ _ _ _
              have HDr : Hid (∀ j b, b < z → D (j * z + b) = El.xs K (fun k => Fld.mul (V j k) ((ps.getD k []).getD b 0))) := fun j b hb => by
                rw [hD.out]
                unfold flatD dat
                rw [(at_div hb).1, (at_div hb).2, hV.out]
              have HIs : Hid (∀ b', IsOf K zs ps b' → 8 + b'.length ≤ K * z ∧ ∀ i, i < K * z → D i = pad b' i) := fun b' hb' => by
                obtain ⟨e1, e2⟩ := isOf_data h1 (by omega) h3 HCh.out (fun i hi => HLe.out i (by omega)) hb'
                have h5 := sz_facts K b'.length h1
                rw [← e1] at h5
                exact ⟨h5.1, fun i hi => by rw [hD.out]; exact e2 i hi⟩
              have hKz : K * z ≤ 12 * z := Nat.mul_le_mul_right _ (by omega)
              have hKz6 : K * z ≤ 1000000 := by omega
              obtain ⟨M, hM⟩ : ∃ M, Hid (M = K * z) := ⟨_, rfl⟩
              rw [← hM.out] at HIs hKz6
              have HJz : Hid (∀ j, j < K → j * z + z ≤ M) := fun j hj => by
                have := Nat.mul_le_mul_right z (show j + 1 ≤ K by omega)
                rw [Nat.succ_mul] at this; rw [hM.out]; exact this
              clear hD HCh hKz
              go_wp2_with fail
              go_loopg [18, 19] K (fun g2 s18 s19 wx => ∃ (j m cap : Nat) (a : Option Addr), j + g2 = K ∧ s19 = .int .i64 (j : Int) ∧ Hid (m = j * z) ∧ s18 = .slice a m cap ∧ Hid (Owns 5 w5.heap.size (.slice a m cap) (U8s (rowN m D)).toList wx) ∧ Below w5.heap.size w5 wx)
              case atStart => exact ⟨0, 0, 0, none, by omega, rfl, by simp [Hid], rfl, Owns.nil _ _ _, Below.refl _ _⟩
              case round =>
                obtain ⟨jj, m, cap, a, hjg2, rfl, hm', rfl, hO, hbj⟩ := hrel
                obtain ⟨c0, c1⟩ := HBx.out wr hbj
                cases gk with
                | succ g2 =>
                  have hzjj : (jj : Int) < (K : Int) := by omega
                  have hjK : jj < K := by omega
                  have hJz := HJz.out jj hjK
                  rw [← hm'.out] at hJz
                  go_wp2_with fail
                  go_loopg [18, 20] z (fun g3 s18 s20 wx => ∃ (b mb cap : Nat) (a : Option Addr), b + g3 = z ∧ s20 = .int .i64 (b : Int) ∧ Hid (mb = m + b) ∧ s18 = .slice a mb cap ∧ Hid (Owns 5 w5.heap.size (.slice a mb cap) (U8s (rowN mb D)).toList wx) ∧ Below w5.heap.size w5 wx)
                  case atStart => exact ⟨0, m, cap, a, by omega, rfl, by simp [Hid], rfl, hO, hbj⟩
                  case round =>
                    obtain ⟨b, mb, cap2, a2, hbg, rfl, hmb, rfl, hO2, hbb⟩ := hrel
                    obtain ⟨c0, c1⟩ := HBx.out wr hbb
                    clear hO
                    have hmb' : mb ≤ m + b ∧ m + b ≤ mb := by have := hmb.out; omega
                    cases gk with
                    | zero =>
                      have hzb : ¬ ((b : Int) < (z : Int)) := by omega
                      have hm2 : Hid (mb = (jj + 1) * z) := by unfold Hid; rw [Nat.succ_mul, ← hm'.out, hmb.out]; omega
                      go_wp2_with fail
                      go_roundg g2
                      case measure => omega
                      case rel => exact ⟨jj + 1, mb, cap2, a2, by omega, by first | rfl | simp, hm2, rfl, hO2, hbb⟩
                    | succ g3 =>
                      have hzb : (b : Int) < (z : Int) := by omega
                      have hbz : b < z := by omega
                      obtain ⟨wo, hwo⟩ : ∃ wo, wo = wr := ⟨_, rfl⟩
                      subst hwo
                      obtain ⟨r, hr⟩ : ∃ r : Nat → Nat, Hid (r = fun k => Fld.mul (V jj k) ((ps.getD k []).getD b 0)) := ⟨_, rfl⟩
                      have HRb : Hid (∀ k, r k < 256) := fun k => by rw [hr.out]; exact Fld.mul_lt _ _
                      have hDm : Hid (D mb = El.xs K r) := by unfold Hid; rw [hmb.out, hm'.out, HDr.out jj b hbz, hr.out]
                      go_wp2_with fail
                      go_loopg [21, 22] K (fun g4 s21 s22 wx => ∃ k : Nat, k + g4 = K ∧ s22 = .int .i64 (k : Int) ∧ s21 = .int .u8 ((El.xs k r : Nat) : Int) ∧ Below wo.heap.size wo wx)
                      case atStart => exact ⟨0, by omega, rfl, rfl, Below.refl _ _⟩
                      case round =>
                        obtain ⟨k, hkg, rfl, rfl, hbk⟩ := hrel
                        have hbK := belowCall hbb hbk
                        obtain ⟨c0, c1⟩ := HBx.out wr hbK
                        have l0 : El.xs k r < 256 := El.xs_lt HRb.out k
                        cases gk with
                        | zero =>
                          have hzk : ¬ ((k : Int) < (K : Int)) := by omega
                          have hkK : k = K := by omega
                          have hO3 := hid (hO2.out.below hbk)
                          have HR0 : Hid (∀ ob, ob = Obj.cells #[.int .u8 ((El.xs k r : Nat) : Int)] 5 → Owns 5 w5.heap.size (.slice a2 mb cap2) (U8s (rowN mb D)).toList (wr.alloc ob) ∧ Row8 (wr.alloc ob) (.slice (some ⟨wr.heap.size, 0, none⟩) 1 1) [El.xs k r] ∧ w5.heap.size ≤ (wr.alloc ob).heap.size ∧ Below w5.heap.size w5 (wr.alloc ob)) := fun ob hob => by
                            subst hob
                            have hh := Has.new wr wr.heap.size #[.int .u8 ((El.xs k r : Nat) : Int)] 5 rfl
                            refine ⟨hO3.out.alloc _, ⟨_, 1, rfl, by simp, by simp; exact l0, fun _ => ⟨wr.heap.size, 0, rfl, hh.lt, fun j hj => ?_⟩⟩, by have := hbK.size; simp; omega, hbK.alloc hbK.size _⟩
                            have hj1 : j < 1 := hj
                            obtain rfl : j = 0 := by omega
                            exact hh.cell 0
                          have HPz : Hid (rowN mb D ++ [El.xs k r] = rowN (mb + 1) D) := by
                            unfold Hid; rw [← rowN_push, hDm.out, hkK]
                          obtain ⟨xk, hxk⟩ : ∃ xk, Hid (xk = El.xs k r) := ⟨_, rfl⟩
                          rw [← hxk.out] at HR0 HPz l0 ⊢
                          clear hO2 hO3 hkK
                          have hmb1 : mb + 1 ≤ 1000000 := by omega
                          go_wp2_with (refine wpList_appW rfl (.tmp 152) (.tmp 154) rfl w5.heap.size _ _ (rowN mb D) [xk] (mb + 1) rfl (by exact (HR0.out _ rfl).1) rfl (by exact (HR0.out _ rfl).2.1) (by rw [rowN_length]; rfl) hmb1 (by omega) (by exact (HR0.out _ rfl).2.2.1) ?_; intro g7 cap7 w7 ho7 hb7; rw [HPz.out] at ho7; have HO7 := hid ho7; have hB7 := (HR0.out _ rfl).2.2.2.trans hb7; clear ho7 hb7)
                          go_roundg g3
                          case measure => omega
                          case rel => exact ⟨b + 1, mb + 1, cap7, _, by omega, by first | rfl | simp, (by have := hmb.out; unfold Hid; omega), rfl, HO7, hB7⟩
                        | succ g4 =>
                          have hzk : (k : Int) < (K : Int) := by omega
                          have hk : k < K := by omega
                          obtain ⟨gi, oi, ci, k1, k2⟩ := HBk.out wr hbK jj hjK k hk
                          have B6 := belowCall B5 hbK
                          have k3 := HDp.out wr B6 k (by omega)
                          have hpl := HLe.out k (by omega)
                          have hpx := HPs.out.lt k
                          obtain ⟨pk, hpk⟩ : ∃ pk, Hid (pk = ps.getD k []) := ⟨_, rfl⟩
                          rw [← hpk.out] at k3 hpl hpx
                          have HPX := hid hpx
                          have hbpk : b < pk.length := by omega
                          have hkn : k < n := by omega
                          have lv := HVb.out jj k
                          have lp : pk.getD b 0 < 256 := getD_lt HPX.out b
                          have hrk : Hid (El.xs k r ^^^ Fld.mul (V jj k) (pk.getD b 0) = El.xs (k + 1) r) := by
                            unfold Hid; rw [El.xs, hr.out, hpk.out]
                          generalize V jj k = x1 at *
                          generalize hx2 : pk.getD b 0 = x2 at *
                          have HX2 := hid hx2
                          obtain ⟨tt, htt⟩ : ∃ tt, Hid (tt = El.xs k r) := ⟨_, rfl⟩
                          rw [← htt.out] at hrk l0 ⊢
                          have l3 := Fld.mul_lt x1 x2
                          have HCs : Hid (∀ W', Below wr.heap.size wr W' → W'.cell? ⟨gb, ob + jj, none⟩ = some (.slice (some ⟨gi, oi, none⟩) K ci) ∧ W'.cell? ⟨gi, oi + k, none⟩ = some (.int .u8 (x1 : Int)) ∧ W'.cell? ⟨gp, op + k, none⟩ = some (.string (ofBs pk))) := fun W' hW =>
                            ⟨cell_below hW (World.block_lt_of_cell? (h := k1)) k1, cell_below hW (World.block_lt_of_cell? (h := k2)) k2, cell_below hW (World.block_lt_of_cell? (h := k3)) k3⟩
                          clear k1 k2 k3 hx2 hpx
                          go_wp2_with fail
                          refine wp_region_last_lit (by kernel_rfl) 136 (by kernel_rfl) (by simp) (by simp) (fun W' => Below wr.heap.size wr W') (vals ([.int .u8 (tt : Int), .slice (some ⟨gb, ob, none⟩) K cb, .int .i64 (jj : Int), .pointer (some ⟨gb, ob + jj, none⟩), .slice (some ⟨gi, oi, none⟩) K ci, .int .i64 (k : Int), .pointer (some ⟨gi, oi + k, none⟩), .int .u8 (x1 : Int), .slice (some ⟨gp, op, none⟩) n cp, .int .i64 (k : Int), .pointer (some ⟨gp, op + k, none⟩), .string (ofBs pk), .int .i64 (b : Int), .int .u8 (x2 : Int), .int .u8 ((Fld.mul x1 x2 : Nat) : Int), .int .u8 ((tt ^^^ Fld.mul x1 x2 : Nat) : Int)] : List Value)) (Below.refl _ _).drew
                            ⟨fun a' W' hC hF => st_val 136 _ rfl (rn_move rfl (hF 21 (by decide))) hC,
                             fun a' W' hC hF => st_val 137 _ rfl (rn_move rfl (hF 16 (by decide))) hC,
                             fun a' W' hC hF => st_val 138 _ rfl (rn_move rfl (hF 19 (by decide))) hC,
                             fun a' W' hC hF => st_val 139 _ rfl (rn_at46 rfl (hF 137 (by decide)) (hF 138 (by decide)) hjK) hC,
                             fun a' W' hC hF => st_val 140 _ rfl (rn_load31 rfl (hF 139 (by decide)) (HCs.out W' hC).1) hC,
                             fun a' W' hC hF => st_val 141 _ rfl (rn_move rfl (hF 22 (by decide))) hC,
                             fun a' W' hC hF => st_val 142 _ rfl (rn_at31 rfl (hF 140 (by decide)) (hF 141 (by decide)) hk) hC,
                             fun a' W' hC hF => st_val 143 _ rfl (rn_load5 rfl (hF 142 (by decide)) (HCs.out W' hC).2.1) hC,
                             fun a' W' hC hF => st_val 144 _ rfl (rn_move rfl (hF 2 (by decide))) hC,
                             fun a' W' hC hF => st_val 145 _ rfl (rn_move rfl (hF 22 (by decide))) hC,
                             fun a' W' hC hF => st_val 146 _ rfl (rn_at28 rfl (hF 144 (by decide)) (hF 145 (by decide)) hkn) hC,
                             fun a' W' hC hF => st_val 147 _ rfl (rn_load9 rfl (hF 146 (by decide)) (HCs.out W' hC).2.2) hC,
                             fun a' W' hC hF => st_val 148 _ rfl (rn_move rfl (hF 20 (by decide))) hC,
                             fun a' W' hC hF => st_val 149 _ rfl (rn_index9v rfl (hF 147 (by decide)) (hF 148 (by decide)) HPX.out hbpk HX2.out) hC,
                             fun a' W' hC hF => st_call 150 _ 26 _ rfl (rn_call2 rfl rfl (hF 143 (by decide)) (hF 149 (by decide)) (enter26 _)) ((refMul_any x1 x2 lv lp W').mono fun e w'' h => ⟨h.1, by rw [h.2]; exact hC⟩),
                             fun a' W' hC hF => st_val 151 _ rfl (rn_xor rfl (hF 136 (by decide)) (hF 150 (by decide)) l0 l3) hC,
                             ?_⟩
                          intro W' hC
                          generalize hA : puts _ _ _ _ = A
                          have hy1 : A.eval (.tmp 151) = .int .u8 ((tt ^^^ Fld.mul x1 x2 : Nat) : Int) := by rw [← hA]; exact ev_puts 16 15 rfl (by simp) (by decide)
                          refine st_valLast _ (rn_assign rfl hy1) ?_
                          rw [← hA]
                          clear hy1 hA A
                          have hB' := belowCall hbk hC
                          clear HCs hC
                          rw [hrk.out]
                          simp only [List.length_cons, List.length_nil, Nat.reduceAdd, Nat.reduceSub, puts, Act.put, vals, List.setIfInBounds_toArray, List.set_cons_succ, List.set_cons_zero, List.getD_cons_succ, List.getD_cons_zero]
                          go_wp2_with fail
                          go_roundg g4
                          case measure => omega
                          case rel => exact ⟨k + 1, by omega, by first | rfl | simp, rfl, hB'⟩
                | zero =>
                  have hzjj : ¬ ((jj : Int) < (K : Int)) := by omega
                  have hmM : m = M := by rw [hm'.out, hM.out, show jj = K by omega]
                  subst hmM
                  obtain ⟨a', cap', hfo, hcap', hfm⟩ := hO.out.form (rowN_lt HDb.out)
                  rw [rowN_length] at hfo hcap' hfm
                  simp only [Value.slice.injEq] at hfo
                  obtain ⟨rfl, _, rfl⟩ := hfo
                  have B6 := belowCall B5 hbj
                  clear HBk HDr HJz hO HVb hm' hM
                  by_cases hm8 : m < 8
                  · have d8 : decide ((m : Int) < 8) = true := by simp; omega
                    have HD := hid (HD4'.out fun ⟨b', hb'⟩ => by have := (HIs.out b' hb').1; omega)
                    clear hfm
                    go_wp2_with fail
                    go_ret2
                    exact DecAns.refused rfl HD.out B6
                  · have d8 : decide ((m : Int) < 8) = false := by simp; omega
                    obtain ⟨ga, hga, hga1, hga2, _, hrw⟩ := hfm (by omega)
                    subst hga
                    have HA : Hid (∀ i, i < m → wr.cell? ⟨ga, i, none⟩ = some (.int .u8 ((D i : Nat) : Int))) := fun i hi => by
                      have h9 : wr.cell? ⟨ga, i, none⟩ = some (.int .u8 (((rowN m D).getD i 0 : Nat) : Int)) := (hrw i hi).1
                      rw [rowN_get _ _ _ hi] at h9; exact h9
                    clear hfm hrw
                    have d5 : (5 : Int) ≤ (cap : Int) := by omega
                    have dc0 : ¬ cap = 0 := by omega
                    have hcv5 := conv_row (w := wr) (v := .slice (some ⟨ga, 0, none⟩) 5 cap) (l := rowN 5 D) ⟨_, cap, by rw [rowN_length], by rw [rowN_length]; omega, rowN_lt HDb.out, fun _ => ⟨ga, 0, rfl, hga2, fun t ht => by
                      rw [rowN_length] at ht
                      rw [Nat.zero_add, HA.out t (by omega), rowN_get _ _ _ ht]⟩⟩
                    have e5 : ((ofBs (rowN 5 D)).toList == (⟨#[0, 0, 0, 0, 0]⟩ : ByteArray).toList) = decide (rowN 5 D = [0, 0, 0, 0, 0]) := str_beq (a := rowN 5 D) (b := [0, 0, 0, 0, 0]) (rowN_lt HDb.out) (by decide)
                    have e5' := e5
                    rw [lit5] at e5'
                    by_cases h5 : rowN 5 D = [0, 0, 0, 0, 0]
                    · rw [decide_eq_true h5] at e5 e5'
                      have q5 := HA.out 5 (by omega)
                      have q6 := HA.out 6 (by omega)
                      have q7 := HA.out 7 (by omega)
                      have y5 := HDb.out 5
                      have y6 := HDb.out 6
                      have y7 := HDb.out 7
                      obtain ⟨nn, hnn⟩ : ∃ nn, Hid (nn = D 5 * 65536 + D 6 * 256 + D 7) := ⟨_, rfl⟩
                      have mnn : (D 5 : Int) * 65536 + (D 6 : Int) * 256 + (D 7 : Int) = (nn : Int) := by rw [hnn.out]; simp
                      have HIn : Hid (∀ b', IsOf K zs ps b' → nn = b'.length ∧ rowN nn (fun i => D (8 + i)) = b' ∧ 8 + b'.length ≤ m) := fun b' hb' => by
                        obtain ⟨i1, i2⟩ := HIs.out b' hb'
                        have hb1 := hb'.1
                        have en : nn = b'.length := by
                          rw [hnn.out, i2 5 (by omega), i2 6 (by omega), i2 7 (by omega)]
                          exact pad_nn hb1
                        refine ⟨en, ?_, i1⟩
                        rw [en]
                        conv => rhs; rw [← pad_blob b']
                        exact rowN_congr fun j hj => i2 _ (by omega)
                      have dm5 : (5 : Int) < (m : Int) := by omega
                      have dm6 : (6 : Int) < (m : Int) := by omega
                      have dm7 : (7 : Int) < (m : Int) := by omega
                      obtain ⟨x5, hx5⟩ : ∃ x, Hid (x = D 5) := ⟨_, rfl⟩
                      obtain ⟨x6, hx6⟩ : ∃ x, Hid (x = D 6) := ⟨_, rfl⟩
                      obtain ⟨x7, hx7⟩ : ∃ x, Hid (x = D 7) := ⟨_, rfl⟩
                      rw [← hx5.out] at q5 y5 mnn
                      rw [← hx6.out] at q6 y6 mnn
                      rw [← hx7.out] at q7 y7 mnn
                      clear h5 HIs
                      go_wp2_with fail
                      go_quiet (fail)
                      have HAw : Hid (∀ i, i < m → (wr.drewN nq).cell? ⟨ga, i, none⟩ = some (.int .u8 ((D i : Nat) : Int))) := fun i hi => HA.out i hi
                      have hBw : Below w.heap.size w (wr.drewN nq) := below_drewN B6 nq
                      have hB5w : Below w5.heap.size w5 (wr.drewN nq) := below_drewN hbj nq
                      have hgaw : ga < (wr.drewN nq).heap.size := hga2
                      generalize wr.drewN nq = W at *
                      clear HA q5 q6 q7 hcv5 e5 e5' c0 c1 mnn B6 hbj
                      by_cases hn1 : 32768 < nn
                      · have d9 : decide ((32768 : Int) < (nn : Int)) = true := by simp; omega
                        have HD := hid (HD4'.out fun ⟨b', hb'⟩ => by have := (HIn.out b' hb').1; have := hb'.1; omega)
                        go_wp2_with fail
                        go_ret2
                        exact DecAns.refused rfl HD.out hBw
                      · have d9 : decide ((32768 : Int) < (nn : Int)) = false := by simp; omega
                        by_cases hn2 : m < 8 + nn
                        · have d10 : decide ((m : Int) < 8 + (nn : Int)) = true := by simp; omega
                          have HD := hid (HD4'.out fun ⟨b', hb'⟩ => by have := HIn.out b' hb'; omega)
                          go_wp2_with fail
                          go_ret2
                          exact DecAns.refused rfl HD.out hBw
                        · have d10 : decide ((m : Int) < 8 + (nn : Int)) = false := by simp; omega
                          obtain ⟨o', ho'⟩ : ∃ o' : Nat, Hid (o' = if cap = 8 then 0 else 8) := ⟨if cap = 8 then 0 else 8, hid rfl⟩
                          have hif : (if cap = 8 then some (⟨ga, 0, none⟩ : Addr) else some ⟨ga, 8, none⟩) = some ⟨ga, o', none⟩ := by
                            rw [ho'.out]; split <;> rfl
                          obtain ⟨bb, hbb⟩ : ∃ bb, Hid (bb = rowN nn (fun i => D (8 + i))) := ⟨_, rfl⟩
                          have hbbl : bb.length = nn := by rw [hbb.out, rowN_length]
                          have hbb8 : ∀ x ∈ bb, x < 256 := by rw [hbb.out]; exact rowN_lt (fun j => HDb.out _)
                          have hcv : (convert 31 9 (.slice (some ⟨ga, o', none⟩) nn (cap - 8))).run Try.prog W = .ok (.string (ofBs bb)) W := by
                            refine conv_row ⟨_, cap - 8, by rw [hbbl], by omega, hbb8, fun hp => ⟨ga, o', rfl, hgaw, fun t ht => ?_⟩⟩
                            have h8 : ¬ cap = 8 := by omega
                            rw [hbb.out, rowN_length] at ht
                            rw [ho'.out, if_neg h8, HAw.out (8 + t) (by omega), hbb.out, rowN_get _ _ _ ht]
                          have HIb : Hid (∀ b', IsOf K zs ps b' → bb = b') := fun b' h => by rw [hbb.out]; exact (HIn.out b' h).2.1
                          have ds1 : (8 : Int) ≤ 8 + (nn : Int) := by omega
                          have ds2 : 8 + (nn : Int) ≤ (cap : Int) := by omega
                          obtain ⟨c0, c1⟩ := HBx.out W hB5w
                          have hen := refEncode_any K N bb W hbb8
                          have ee : errE K N bb = 0 ∧ ansE K N bb = encL K N bb := by
                            unfold errE ansE okE; rw [hm, if_pos rfl, if_pos (by omega), decide_eq_true (by omega)]; exact ⟨rfl, rfl⟩
                          rw [ee.1, ee.2] at hen
                          unfold cv at hen
                          have HEn := hid hen
                          have hbl : bb.length ≤ 32768 := by omega
                          have HBL := hid hbl
                          have HB8 := hid hbb8
                          clear hen ee hbbl HAw HIn hbb8 hbl
                          go_wp2_with fail
                          refine HEn.out.mono ?_
                          rintro e w6 ⟨ra, rfl, hsa, b6⟩
                          have B6 := belowCall hBw b6
                          have hsl : (encL K N bb).length = N := encL_length _ _ _
                          obtain ⟨gq, oq, cq, hra, _, hgq, hcq⟩ := hsa.some (by omega)
                          rw [hsl] at hra
                          subst hra
                          have HCa := hid hcq
                          clear HEn hsa hcq b6 c0 c1 hcv hif
                          go_wp2_with fail
                          go_loopg [27] n (fun g2 s27 wx => ∃ k : Nat, k + g2 = n ∧ s27 = .int .i64 (k : Int) ∧ Hid (∀ j, j < k → ps.getD j [] = payL K bb (zs.getD j 0).toNat) ∧ Below w6.heap.size w6 wx)
                          case atStart => exact ⟨0, by omega, rfl, fun j hj => absurd hj (by omega), Below.refl _ _⟩
                          case round =>
                            obtain ⟨k, hkg, rfl, hjj, hbk⟩ := hrel
                            have Bk := belowCall B6 hbk
                            cases gk with
                            | zero =>
                              have hzk : ¬ ((k : Int) < (n : Int)) := by omega
                              have HD := hid (HD0'.out bb ⟨HBL.out, HB8.out, fun i hi => hjj.out i (by omega)⟩)
                              clear hjj
                              go_wp2_with fail
                              go_ret2
                              exact ⟨bb, 0, rfl, HD.out, Bk⟩
                            | succ g2 =>
                              have hzk : (k : Int) < (n : Int) := by omega
                              have hk : k < n := by omega
                              have q0 := cell_below Bk hgz (HDz.out k hk)
                              have hrg := (HG.out k (by omega)).1
                              obtain ⟨x, hx⟩ : ∃ x : Nat, zs.getD k 0 = (x : Int) := ⟨(zs.getD k 0).toNat, by omega⟩
                              rw [hx] at q0 hrg
                              have hxN : x < N := by omega
                              have k1 := cell_below hbk hgq (HCa.out x (by omega))
                              rw [encL_get _ _ _ _ hxN] at k1
                              have k2 := HDp.out wr Bk k hk
                              have px := payL_lt K bb x
                              have pp := HPs.out.lt k
                              obtain ⟨p1, hp1⟩ : ∃ p1, Hid (p1 = payL K bb x) := ⟨_, rfl⟩
                              obtain ⟨p2, hp2⟩ : ∃ p2, Hid (p2 = ps.getD k []) := ⟨_, rfl⟩
                              rw [← hp1.out] at k1 px
                              rw [← hp2.out] at k2 pp
                              have PX := hid px
                              have PP := hid pp
                              have HCs : Hid (∀ W', Below wr.heap.size wr W' → W'.cell? ⟨gz, oz + k, none⟩ = some (.int .i64 (x : Int)) ∧ W'.cell? ⟨gq, oq + x, none⟩ = some (.string (ofBs p1)) ∧ W'.cell? ⟨gp, op + k, none⟩ = some (.string (ofBs p2))) := fun W' hW =>
                                ⟨cell_below hW (World.block_lt_of_cell? (h := q0)) q0, cell_below hW (World.block_lt_of_cell? (h := k1)) k1, cell_below hW (World.block_lt_of_cell? (h := k2)) k2⟩
                              have HNx : Hid (p1 = p2 ↔ ps.getD k [] = payL K bb (zs.getD k 0).toNat) := by
                                unfold Hid; rw [hx, hp1.out, hp2.out]
                                exact ⟨fun h => h.symm, fun h => h.symm⟩
                              clear k1 k2 px pp hrg hx q0
                              go_wp2_with fail
                              refine wp_region_last_lit (by kernel_rfl) 207 (by kernel_rfl) (by simp) (by simp) (fun W' => Below wr.heap.size wr W') (vals ([.slice (some ⟨gq, oq, none⟩) N cq, .slice (some ⟨gz, oz, none⟩) n cz, .int .i64 (k : Int), .pointer (some ⟨gz, oz + k, none⟩), .int .i64 (x : Int), .pointer (some ⟨gq, oq + x, none⟩), .string (ofBs p1), .slice (some ⟨gp, op, none⟩) n cp, .int .i64 (k : Int), .pointer (some ⟨gp, op + k, none⟩), .string (ofBs p2)] : List Value)) (Below.refl _ _).drew
                                ⟨fun a' W' hC hF => st_val 207 _ rfl (rn_move rfl (hF 25 (by decide))) hC,
                                 fun a' W' hC hF => st_val 208 _ rfl (rn_move rfl (hF 1 (by decide))) hC,
                                 fun a' W' hC hF => st_val 209 _ rfl (rn_move rfl (hF 27 (by decide))) hC,
                                 fun a' W' hC hF => st_val 210 _ rfl (rn_at32 rfl (hF 208 (by decide)) (hF 209 (by decide)) hk) hC,
                                 fun a' W' hC hF => st_val 211 _ rfl (rn_load3 rfl (hF 210 (by decide)) (HCs.out W' hC).1) hC,
                                 fun a' W' hC hF => st_val 212 _ rfl (rn_at28 rfl (hF 207 (by decide)) (hF 211 (by decide)) hxN) hC,
                                 fun a' W' hC hF => st_val 213 _ rfl (rn_load9 rfl (hF 212 (by decide)) (HCs.out W' hC).2.1) hC,
                                 fun a' W' hC hF => st_val 214 _ rfl (rn_move rfl (hF 2 (by decide))) hC,
                                 fun a' W' hC hF => st_val 215 _ rfl (rn_move rfl (hF 27 (by decide))) hC,
                                 fun a' W' hC hF => st_val 216 _ rfl (rn_at28 rfl (hF 214 (by decide)) (hF 215 (by decide)) hk) hC,
                                 fun a' W' hC hF => st_val 217 _ rfl (rn_load9 rfl (hF 216 (by decide)) (HCs.out W' hC).2.2) hC,
                                 ?_⟩
                              intro W' hC
                              generalize hA : puts _ _ _ _ = A
                              have hy1 : A.eval (.tmp 213) = .string (ofBs p1) := by rw [← hA]; exact ev_puts 11 6 rfl (by simp) (by decide)
                              have hy2 : A.eval (.tmp 217) = .string (ofBs p2) := by rw [← hA]; exact ev_puts 11 10 rfl (by simp) (by decide)
                              refine st_valLast _ (rn_neqS rfl hy1 hy2 PX.out PP.out) ?_
                              rw [← hA]
                              clear hy1 hy2 hA A
                              have hB' := belowCall hbk hC
                              have hBw' := belowCall Bk hC
                              clear HCs hC
                              simp only [List.length_cons, List.length_nil, Nat.reduceAdd, Nat.reduceSub, puts, Act.put, vals, List.setIfInBounds_toArray, List.set_cons_succ, List.set_cons_zero, List.getD_cons_succ, List.getD_cons_zero]
                              by_cases he : p1 = p2
                              · have de : decide (p1 = p2) = true := decide_eq_true he
                                rw [de]
                                have hj' : Hid (∀ j, j < k + 1 → ps.getD j [] = payL K bb (zs.getD j 0).toNat) := fun j hjk => by
                                  by_cases hlt : j < k
                                  · exact hjj.out j hlt
                                  · obtain rfl : j = k := by omega
                                    exact HNx.out.1 he
                                clear hjj de he
                                go_wp2_with fail
                                go_roundg g2
                                case measure => omega
                                case rel => exact ⟨k + 1, by omega, by first | rfl | simp, hj', hB'⟩
                              · have de : decide (p1 = p2) = false := decide_eq_false he
                                rw [de]
                                have HD : Hid (DecIs K N zs ps [] 4) := HD4'.out fun ⟨b', hb'⟩ => he (HNx.out.2 (by
                                  rw [HIb.out b' hb']; exact hb'.2.2 k (by omega)))
                                clear hjj de
                                go_wp2_with fail
                                go_ret2
                                exact DecAns.refused rfl HD.out hBw'
                    · rw [decide_eq_false h5] at e5 e5'
                      have HD := hid (HD4'.out fun ⟨b', hb'⟩ => h5 (by
                        obtain ⟨i1, i2⟩ := HIs.out b' hb'
                        rw [rowN_congr (f' := pad b') (fun j hj => i2 j (by omega))]
                        exact pad_5 hb'.1))
                      clear h5 HIs
                      go_wp2_with fail
                      go_ret2
                      exact DecAns.refused rfl HD.out B6
end Go.Proofs.Ytfbjpgcgdhhfnaa
