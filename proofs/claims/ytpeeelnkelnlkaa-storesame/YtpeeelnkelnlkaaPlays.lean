/- StorePlays: whatever is done to a store, it tells what the document's does. -/
import Derived.Test.YtpeeelnkelnlkaaAct2
namespace Go.Proofs.Ytpeeelnkelnlkaa
open Go.RowKit Go.Maps
set_option maxHeartbeats 2000000 in
set_option maxRecDepth 20000 in
theorem told_any {w : World} {S : Nat → Prop} {b c N : Nat} {s : St} {r : Rf} (h : D2 w S b c s r) (ht : Twin N s r) (hN : N ≤ 100000) : Calls Try.prog 25 #[ptr b, ptr c] w fun e w' => e = .returned (.bool true) ∧ Below w.heap.size w w' := by
  have HRN : Hid (r.good.length + r.writes.length ≤ 1000000) := hid (by have := ht.many; omega)
  have HH := hid h
  have HT := hid ht
  obtain ⟨S1, k1, _, _⟩ := h.st
  have HO := objects_any k1 (Nat.le_trans ht.len (by omega))
  clear h ht k1
  unfold ptr at *
  go_enter Try.func25, Try.ntmps25
  go_wp2_with fail
  refine HO.mono ?_
  clear HO
  rintro x w1 ⟨v1, rfl, hr1, hb1⟩
  obtain ⟨T1, t1, _, _⟩ := (HH.out.below hb1).rf
  have HO2 := refObjects_any t1 HRN.out
  have HB1 := hid hb1
  have HR1 := hid hr1
  unfold ptr at HO2
  clear t1 hb1 hr1
  go_wp2_with fail
  refine HO2.mono ?_
  clear HO2
  rintro x w2 ⟨v2, rfl, hr2, hb2⟩
  have HSO := sameObj_any (row_below HR1.out hb2) hr2
  rw [HT.out.seen, decide_eq_true rfl] at HSO
  have HB2 := hid (HB1.out.trans (hb2.mono HB1.out.size))
  clear HR1 HB1 hr2 hb2
  go_wp2_with fail
  refine HSO.mono ?_
  clear HSO
  rintro x w3 ⟨rfl, hb3⟩
  have HB3 := hid (HB2.out.trans (hb3.mono HB2.out.size))
  clear hb3 HB2
  have HD3 := hid (HH.out.below HB3.out)
  obtain ⟨S3, k3, _, _⟩ := HD3.out.st
  obtain ⟨T3, t3, _, _⟩ := HD3.out.rf
  have HU := up_any k3
  have HU2 := refUp_any t3
  have HS := sound_any k3
  have HS2 := refSound_any t3
  rw [HT.out.down] at HU2
  rw [HT.out.down, HT.out.ahead] at HS2
  unfold ptr at HU HU2 HS HS2
  have q1 : ((!s.down) == (!s.down)) = true := by simp
  have q2 : ((!s.down && s.refuse.isNone) == (!s.down && s.refuse.isNone)) = true := by simp
  clear k3 t3 HD3
  generalize (!s.down && s.refuse.isNone) = z2 at *
  generalize (!s.down) = z1 at *
  go_wp2_with fail
  refine HU.mono ?_
  rintro x w4 ⟨rfl, rfl⟩
  go_wp2_with fail
  refine HU2.mono ?_
  rintro x w5 ⟨rfl, rfl⟩
  go_wp2_with fail
  refine HS.mono ?_
  rintro x w6 ⟨rfl, rfl⟩
  go_wp2_with fail
  refine HS2.mono ?_
  rintro x w7 ⟨rfl, rfl⟩
  clear HU HU2 HS HS2
  go_wp2_with fail
  go_ret
  exact ⟨rfl, HB3.out⟩
theorem same_put {s : St} {n d : ByteArray} (h : (putS s n d).1 = 0) : sameS s (putS s n d).2 = false := by
  rcases put_did s n d with ⟨h1, _, _⟩ | ⟨_, _, hd⟩
  · exact absurd h h1
  · rw [h] at hd
    generalize (putS s n d).2 = s' at *
    cases hd with
    | ok a ha =>
      unfold sameS
      simp
theorem AcOk.below0 {W W' : World} {x : Ac} (h : AcOk W x) (hb : Below W.heap.size W W') : AcOk W' x := h.below hb
theorem sameS_self (s : St) : sameS s s = true := by unfold sameS; simp
def onlyN : ByteArray := ⟨#[111, 110, 108, 121, 32, 104, 101, 114, 101]⟩
def onlyD : ByteArray := ⟨#[113]⟩
/-- two new ones -/
theorem D2.fresh {w w1 w2 : World} {S T : Nat → Prop} {b c : Nat} {s : St} {r : Rf} (h1 : IsSt w1 S b s) (hS : ∀ i, S i → w.heap.size ≤ i) (hb1 : Below w.heap.size w w1) (h2 : IsRf w2 T c r) (hT : ∀ i, T i → w1.heap.size ≤ i) (hb2 : Below w1.heap.size w1 w2) : D2 w2 (fun i => S i ∨ T i) b c s r ∧ ∀ i, (S i ∨ T i) → w.heap.size ≤ i := by
  have hSb := h1.bound
  refine ⟨⟨S, T, h1.below hb2, h2, fun i h => .inl h, fun i h => .inr h, fun i hS hT' => ?_, fun i hi => ?_⟩, fun i hi => ?_⟩
  · have := hSb i hS
    have := hT i hT'
    omega
  · rcases hi with hi | hi
    · exact Nat.lt_of_lt_of_le (hSb i hi) hb2.size
    · exact h2.bound i hi
  · rcases hi with hi | hi
    · exact hS i hi
    · exact Nat.le_trans hb1.size (hT i hi)
set_option maxHeartbeats 8000000 in
set_option maxRecDepth 20000 in
theorem plays_walk {w : World} {v : Value} {l : List Ac} (h : Acts w v l) : Calls Try.prog 4 #[v] w fun e w' => e = .returned (.bool true) ∧ Below w.heap.size w w' := by
  obtain ⟨va, vc, hv⟩ : ∃ va vc, v = .slice va l.length vc := by
    rcases h.1 with ⟨A0, c0, rfl, rfl⟩ | ⟨g, o, cap, rfl, _⟩
    · exact ⟨_, _, rfl⟩
    · exact ⟨_, _, rfl⟩
  subst hv
  have HA := hid h
  have HL := large_any h
  clear h
  by_cases hbig : 20000 ≤ acS l
  · rw [decide_eq_true hbig] at HL
    clear hbig
    generalize l.length = L at *
    go_enter Try.func4, Try.ntmps4
    go_wp2_with fail
    refine HL.mono ?_
    clear HL
    rintro x w1 ⟨rfl, hb1⟩
    have H1 := hid hb1
    clear hb1
    go_wp2_with fail
    go_ret
    exact ⟨rfl, H1.out⟩
  · rw [decide_eq_false hbig] at HL
    have HS := hid hbig
    have hlen := acS_len l
    have hl1 : l.length ≤ 1000 := by omega
    clear hbig hlen
    go_enter Try.func4, Try.ntmps4
    go_wp2_with fail
    refine HL.mono ?_
    clear HL
    rintro x w1 ⟨rfl, hb1⟩
    have H1 := hid hb1
    clear hb1
    go_wp2_with fail
    refine (new_any w1).mono ?_
    rintro x w2 ⟨b, S1, rfl, hs1, hS1, hb2⟩
    have HP := hid (show IsSt w2 S1 b st0 ∧ (∀ i, S1 i → w1.heap.size ≤ i) ∧ Below w1.heap.size w1 w2 from ⟨hs1, hS1, hb2⟩)
    clear hs1 hS1 hb2
    unfold ptr
    go_wp2_with fail
    refine (refNew_any w2).mono ?_
    rintro x w3 ⟨c, T1, rfl, ht1, hT1, hb3⟩
    have HD := hid (show ∃ S, D2 w3 S b c st0 rf0 ∧ (∀ i, S i → w.heap.size ≤ i) ∧ Below w.heap.size w w3 from by
      obtain ⟨p1, p2, p3⟩ := HP.out
      obtain ⟨f1, f2⟩ := D2.fresh p1 p2 p3 ht1 hT1 hb3
      exact ⟨_, f1, fun i hi => Nat.le_trans H1.out.size (f2 i hi), (H1.out.trans (p3.mono H1.out.size)).trans (hb3.mono (Nat.le_trans H1.out.size p3.size))⟩)
    clear ht1 hT1 hb3 HP H1
    unfold ptr
    go_wp2_with fail
    go_loopg [3, 5] l.length (fun gk s3 s5 wx => ∃ (k b : Nat) (S : Nat → Prop) (s : St) (r : Rf), k + gk = l.length ∧ s5 = .int .i64 (k : Int) ∧ s3 = .pointer (some ⟨b, 0, none⟩) ∧ Hid (Twin k s r) ∧ D2 wx S b c s r ∧ (∀ i, S i → w.heap.size ≤ i) ∧ Below w.heap.size w wx)
    case atStart =>
      obtain ⟨S, d1, d2, d3⟩ := HD.out
      exact ⟨0, b, S, st0, rf0, by omega, rfl, rfl, hid twin0, d1, d2, d3⟩
    case round =>
      clear HD
      obtain ⟨k, b, S, s, r, hk, rfl, rfl, HT, hd, hS, hbw⟩ := hrel
      have HDD := hid hd
      have HSS := hid hS
      have HBW := hid hbw
      clear hd hS hbw
      cases gk with
      | zero =>
        have q1 : ¬ ((k : Int) < (l.length : Int)) := by omega
        have HTO := told_any HDD.out HT.out (by omega)
        unfold ptr at HTO
        go_wp2_with fail
        refine HTO.mono ?_
        clear HTO
        rintro x w4 ⟨rfl, hb4⟩
        have HB4 := hid (HBW.out.trans (hb4.mono HBW.out.size))
        clear hb4
        go_wp2_with fail
        go_ret
        exact ⟨rfl, HB4.out⟩
      | succ g1 =>
        have q1 : (k : Int) < (l.length : Int) := by omega
        obtain ⟨x, hx⟩ : ∃ x, l[k]? = some x := ⟨_, List.getElem?_eq_getElem (by omega)⟩
        have hok := HA.out.2 x (List.mem_of_getElem? hx)
        have hW := acW_le (List.mem_of_getElem? hx)
        have hsm := HS.out
        rcases HA.out.1 with ⟨_, _, _, hl0⟩ | ⟨g, o, cap, ev, hl, hg, hc⟩
        · rw [hl0] at q1; simp at q1; omega
        cases ev
        have hcc : ∀ i u, (acells x)[i]? = some u → wr.cell? ⟨g, o + k * 9 + i, none⟩ = some u := fun i u hu => by rw [HBW.out.cell (p := ⟨g, o + k * 9 + i, none⟩) hg]; exact hc k x hx i u hu
        have c0 : wr.cell? ⟨g, o + k * 9, none⟩ = some (.int .u8 (x.kind : Int)) := hcc 0 _ rfl
        have c1 := hcc 1 _ rfl
        have c2 := hcc 2 _ rfl
        have c3 := hcc 3 _ rfl
        have c4 := hcc 4 _ rfl
        have c5 := hcc 5 _ rfl
        have c6 := hcc 6 _ rfl
        have c7 := hcc 7 _ rfl
        have c8 := hcc 8 _ rfl
        have HNM := hid (show x.name.size ≤ 1000000 from by unfold acW at hW; omega)
        have HOK := hid (show AcOk wr x from AcOk.below0 hok HBW.out)
        have HKS := hid (show ∀ g o n c', x.kv = .slice (some ⟨g, o, none⟩) n c' → 0 < n → ¬ S g from fun g o n c' e1 e2 hS => by
          have := RdI.lt hok.keep e1 e2
          have := HSS.out g hS
          omega)
        clear hc hx hok hW hsm hcc
        by_cases h6 : 6 < x.kind
        · have p6 : (6 : Int) < (x.kind : Int) := by omega
          obtain ⟨S1, T1, i1, i2, i3, i4, i5, i6⟩ := HDD.out
          have HC1 := copy_any i1 (Nat.le_trans HT.out.fit.writes (by omega))
          have HI := hid (show IsSt wr S1 b s ∧ IsRf wr T1 c r ∧ (∀ i, S1 i → i < wr.heap.size) ∧ (∀ i, T1 i → i < wr.heap.size) ∧ (∀ i, S1 i → ¬ T1 i) ∧ (∀ i, T1 i → w.heap.size ≤ i) from ⟨i1, i2, i1.bound, i2.bound, i5, fun i hi => HSS.out i (i4 i hi)⟩)
          unfold ptr at HC1
          have HS1 := hid (show ∀ i, S1 i → w.heap.size ≤ i from fun i hi => HSS.out i (i3 i hi))
          clear i1 i2 i3 i4 i5 i6 HOK HKS HNM
          go_wp2_with fail
          refine HC1.mono ?_
          clear HC1
          rintro x4 w4 ⟨b', S', rfl, n1, n2, n3⟩
          have HSM := same_any n1 (HI.out.1.below n3)
          rw [sameS_self] at HSM
          have HN4 := hid (show IsSt w4 S' b' s ∧ (∀ i, S' i → wr.heap.size ≤ i) ∧ Below wr.heap.size wr w4 from ⟨n1, n2, n3⟩)
          unfold ptr at *
          clear n1 n2 n3 c0 c1 c2 c3 c4 c5 c6 c7 c8
          go_wp2_with fail
          refine HSM.mono ?_
          clear HSM
          rintro x5 w5 ⟨rfl, hb5⟩
          have HB5 := hid hb5
          have HPT := put_any ((HI.out.1.below HN4.out.2.2).below hb5) HT.out.fit (by omega) onlyN onlyD
          unfold ptr obv er onlyN onlyD at HPT
          clear hb5
          have HSP := hid (fun hz => same_put (s := s) (n := onlyN) (d := onlyD) hz)
          unfold onlyN onlyD at HSP
          go_wp2_with fail
          refine HPT.mono ?_
          clear HPT
          rintro x6 w6 ⟨rfl, ha6⟩
          obtain ⟨S6, s6, u6, o6⟩ := ha6
          have HN6 := hid (show IsSt w6 S' b' s from (HN4.out.1.below HB5.out).only o6 fun i hi hS => by
            have := HI.out.2.2.1 i hS
            have := HN4.out.2.1 i hi
            omega)
          have HR6 := hid (show IsRf w6 T1 c r from ((HI.out.2.1.below HN4.out.2.2).below HB5.out).only o6 fun i hi hS => HI.out.2.2.2.2.1 i hS hi)
          have HS6 := hid s6
          have HB6 := hid (show Below w.heap.size w w6 from (HBW.out.trans ((HN4.out.2.2.trans (HB5.out.mono HN4.out.2.2.size)).mono HBW.out.size)).trans (o6.below (Nat.le_trans HBW.out.size (Nat.le_trans HN4.out.2.2.size HB5.out.size)) (fun i hi => HS1.out i hi)))
          have HD6 := hid (show D2 w6 (fun i => S' i ∨ T1 i) b' c s r from ⟨S', T1, HN6.out, HR6.out, fun i h => .inl h, fun i h => .inr h, fun i hS hT' => by
              have := HI.out.2.2.2.1 i hT'
              have := HN4.out.2.1 i hS
              omega, fun i hi => hi.elim (HN6.out.bound i) (HR6.out.bound i)⟩)
          have HS4 := hid (show ∀ i, (S' i ∨ T1 i) → w.heap.size ≤ i from fun i hi => hi.elim (fun h => Nat.le_trans HBW.out.size (HN4.out.2.1 i h)) (HI.out.2.2.2.2.2 i))
          have HT4 := hid (HT.out.more (Nat.le_succ k))
          clear s6 u6 o6 HR6 HB5 HN4 HI
          by_cases hz : (putS s ⟨#[111, 110, 108, 121, 32, 104, 101, 114, 101]⟩ ⟨#[113]⟩).1 = 0
          · have p7 : ((putS s ⟨#[111, 110, 108, 121, 32, 104, 101, 114, 101]⟩ ⟨#[113]⟩).1 == 0) = true := by rw [hz]; rfl
            have HSM := same_any HN6.out HS6.out
            rw [HSP.out hz] at HSM
            unfold ptr at HSM
            clear hz HSP HS6 HN6
            generalize (putS s ⟨#[111, 110, 108, 121, 32, 104, 101, 114, 101]⟩ ⟨#[113]⟩).1 = z0 at *
            go_wp2_with fail
            refine HSM.mono ?_
            clear HSM
            rintro x7 w7 ⟨rfl, hb7⟩
            have HD4 := hid (HD6.out.below hb7)
            have HB4 := hid (HB6.out.trans (hb7.mono HB6.out.size))
            clear hb7 HD6 HB6
            have HTO := told_any HD4.out HT4.out (by omega)
            unfold ptr at HTO
            go_wp2_with fail
            refine HTO.mono ?_
            clear HTO
            rintro x8 w8 ⟨rfl, hb8⟩
            have HD8 := hid (HD4.out.below hb8)
            have HB8 := hid (HB4.out.trans (hb8.mono HB4.out.size))
            obtain ⟨S8, k8, _, _⟩ := HD8.out.st
            have HOB := objects_any k8 (Nat.le_trans HT4.out.len (by omega))
            unfold ptr at HOB
            clear hb8 k8 HD4 HB4
            go_wp2_with fail
            refine HOB.mono ?_
            clear HOB
            rintro x9 w9 ⟨ov, rfl, hr9, hb9⟩
            obtain ⟨oa, oc, rfl⟩ := row_slice hr9
            have HD9 := hid (HD8.out.below hb9)
            have HB9 := hid (HB8.out.trans (hb9.mono HB8.out.size))
            have hLL : s.seen.length ≤ 1000000 := Nat.le_trans HT4.out.len (by omega)
            generalize s.seen.length = LL at *
            have HRW := hid (show ∀ g, oa = some ⟨g, 0, none⟩ → w8.heap.size ≤ g ∧ ∃ cur, Has w9 g cur 28 ∧ LL * 2 ≤ cur.size from fun g e => by
              rcases hr9.2 with ⟨e1, _⟩ | ⟨g', cap, cur, e1, e2, e3, e4, _, e5, _⟩
              · rw [e] at e1; cases e1
              · rw [e] at e1; cases e1
                exact ⟨e2, cur, e3, by rw [e5]; omega⟩)
            have HFM := hid (show 0 < LL → ∃ g, oa = some ⟨g, 0, none⟩ from fun h0 => by
              rcases row_form hr9 with ⟨_, e, _⟩ | ⟨g, cap, e, _⟩
              · omega
              · cases e; exact ⟨g, rfl⟩)
            clear hr9 hb9
            go_wp2_with fail
            go_loopg [8] LL (fun gk s8 wx => ∃ j : Nat, j + gk = LL ∧ s8 = .int .i64 (j : Int) ∧ D2 wx (fun i => S' i ∨ T1 i) b' c s r ∧ Below w.heap.size w wx ∧ Hid (∀ g, oa = some ⟨g, 0, none⟩ → w8.heap.size ≤ g ∧ ∃ cur, Has wx g cur 28 ∧ LL * 2 ≤ cur.size))
            case atStart => exact ⟨0, by omega, rfl, HD9.out, HB9.out, HRW⟩
            case round =>
              clear HRW HD9 HB9
              obtain ⟨j, hj, rfl, hdj, hbj, HRJ⟩ := hrel
              have HDJ := hid hdj
              have HBJ := hid hbj
              clear hdj hbj
              cases gk with
              | zero =>
                have p1 : ¬ ((j : Int) < (LL : Int)) := by omega
                go_wp2_with fail
                go_roundg g1
                case measure => omega
                case rel => exact ⟨k + 1, b', (fun i => S' i ∨ T1 i), s, r, by omega, by first | rfl | simp, rfl, HT4, HDJ.out, HS4.out, HBJ.out⟩
              | succ g2 =>
                have p1 : (j : Int) < (LL : Int) := by omega
                obtain ⟨g, rfl⟩ := HFM.out (by omega)
                obtain ⟨hg8, cur, hcur, hsz⟩ := HRJ.out g rfl
                have j0 : wr.cell? ⟨g, j * 2 + 1, none⟩ = some cur[j * 2 + 1] := by rw [hcur.cell]; exact Array.getElem?_eq_getElem (by omega)
                have j1 := hcur.frozen (j * 2 + 1)
                have hgS : ∀ i, (fun i => S' i ∨ T1 i) i → i ≠ g := fun i hi e => by
                  obtain ⟨_, _, _, _, _, _, _, h6⟩ := HD8.out
                  have := h6 i hi
                  omega
                have HDN := hid (HDJ.out.only ((Only.refl (fun i => i = g) wr).set (p := ⟨g, j * 2 + 1, none⟩) (.inl rfl) (.string ⟨#[63]⟩)) hgS)
                have HBN := hid (HBJ.out.setCell (p := ⟨g, j * 2 + 1, none⟩) (show w.heap.size ≤ g from Nat.le_trans HB8.out.size hg8) (.string ⟨#[63]⟩))
                have HRN := hid (show ∀ g', some (⟨g, 0, none⟩ : Addr) = some ⟨g', 0, none⟩ → w8.heap.size ≤ g' ∧ ∃ cur, Has (wr.setCell ⟨g, j * 2 + 1, none⟩ (.string ⟨#[63]⟩)) g' cur 28 ∧ LL * 2 ≤ cur.size from fun g' e => by
                  cases e
                  exact ⟨hg8, _, hcur.set _ _, by simpa using hsz⟩)
                generalize cur[j * 2 + 1] = u0 at *
                clear hcur hsz hgS HRJ hg8
                go_wp2_with fail
                go_roundg g2
                case measure => omega
                case rel => exact ⟨j + 1, by omega, by first | rfl | simp, HDN.out, HBN.out, HRN⟩
          · have p7 : ((putS s ⟨#[111, 110, 108, 121, 32, 104, 101, 114, 101]⟩ ⟨#[113]⟩).1 == 0) = false := beq_eq_false_iff_ne.2 hz
            clear hz HSP HS6 HN6
            generalize (putS s ⟨#[111, 110, 108, 121, 32, 104, 101, 114, 101]⟩ ⟨#[113]⟩).1 = z0 at *
            have HD4 := HD6
            have HB4 := HB6
            clear HD6 HB6
            have HTO := told_any HD4.out HT4.out (by omega)
            unfold ptr at HTO
            go_wp2_with fail
            refine HTO.mono ?_
            clear HTO
            rintro x8 w8 ⟨rfl, hb8⟩
            have HD8 := hid (HD4.out.below hb8)
            have HB8 := hid (HB4.out.trans (hb8.mono HB4.out.size))
            obtain ⟨S8, k8, _, _⟩ := HD8.out.st
            have HOB := objects_any k8 (Nat.le_trans HT4.out.len (by omega))
            unfold ptr at HOB
            clear hb8 k8 HD4 HB4
            go_wp2_with fail
            refine HOB.mono ?_
            clear HOB
            rintro x9 w9 ⟨ov, rfl, hr9, hb9⟩
            obtain ⟨oa, oc, rfl⟩ := row_slice hr9
            have HD9 := hid (HD8.out.below hb9)
            have HB9 := hid (HB8.out.trans (hb9.mono HB8.out.size))
            have hLL : s.seen.length ≤ 1000000 := Nat.le_trans HT4.out.len (by omega)
            generalize s.seen.length = LL at *
            have HRW := hid (show ∀ g, oa = some ⟨g, 0, none⟩ → w8.heap.size ≤ g ∧ ∃ cur, Has w9 g cur 28 ∧ LL * 2 ≤ cur.size from fun g e => by
              rcases hr9.2 with ⟨e1, _⟩ | ⟨g', cap, cur, e1, e2, e3, e4, _, e5, _⟩
              · rw [e] at e1; cases e1
              · rw [e] at e1; cases e1
                exact ⟨e2, cur, e3, by rw [e5]; omega⟩)
            have HFM := hid (show 0 < LL → ∃ g, oa = some ⟨g, 0, none⟩ from fun h0 => by
              rcases row_form hr9 with ⟨_, e, _⟩ | ⟨g, cap, e, _⟩
              · omega
              · cases e; exact ⟨g, rfl⟩)
            clear hr9 hb9
            go_wp2_with fail
            go_loopg [8] LL (fun gk s8 wx => ∃ j : Nat, j + gk = LL ∧ s8 = .int .i64 (j : Int) ∧ D2 wx (fun i => S' i ∨ T1 i) b' c s r ∧ Below w.heap.size w wx ∧ Hid (∀ g, oa = some ⟨g, 0, none⟩ → w8.heap.size ≤ g ∧ ∃ cur, Has wx g cur 28 ∧ LL * 2 ≤ cur.size))
            case atStart => exact ⟨0, by omega, rfl, HD9.out, HB9.out, HRW⟩
            case round =>
              clear HRW HD9 HB9
              obtain ⟨j, hj, rfl, hdj, hbj, HRJ⟩ := hrel
              have HDJ := hid hdj
              have HBJ := hid hbj
              clear hdj hbj
              cases gk with
              | zero =>
                have p1 : ¬ ((j : Int) < (LL : Int)) := by omega
                go_wp2_with fail
                go_roundg g1
                case measure => omega
                case rel => exact ⟨k + 1, b', (fun i => S' i ∨ T1 i), s, r, by omega, by first | rfl | simp, rfl, HT4, HDJ.out, HS4.out, HBJ.out⟩
              | succ g2 =>
                have p1 : (j : Int) < (LL : Int) := by omega
                obtain ⟨g, rfl⟩ := HFM.out (by omega)
                obtain ⟨hg8, cur, hcur, hsz⟩ := HRJ.out g rfl
                have j0 : wr.cell? ⟨g, j * 2 + 1, none⟩ = some cur[j * 2 + 1] := by rw [hcur.cell]; exact Array.getElem?_eq_getElem (by omega)
                have j1 := hcur.frozen (j * 2 + 1)
                have hgS : ∀ i, (fun i => S' i ∨ T1 i) i → i ≠ g := fun i hi e => by
                  obtain ⟨_, _, _, _, _, _, _, h6⟩ := HD8.out
                  have := h6 i hi
                  omega
                have HDN := hid (HDJ.out.only ((Only.refl (fun i => i = g) wr).set (p := ⟨g, j * 2 + 1, none⟩) (.inl rfl) (.string ⟨#[63]⟩)) hgS)
                have HBN := hid (HBJ.out.setCell (p := ⟨g, j * 2 + 1, none⟩) (show w.heap.size ≤ g from Nat.le_trans HB8.out.size hg8) (.string ⟨#[63]⟩))
                have HRN := hid (show ∀ g', some (⟨g, 0, none⟩ : Addr) = some ⟨g', 0, none⟩ → w8.heap.size ≤ g' ∧ ∃ cur, Has (wr.setCell ⟨g, j * 2 + 1, none⟩ (.string ⟨#[63]⟩)) g' cur 28 ∧ LL * 2 ≤ cur.size from fun g' e => by
                  cases e
                  exact ⟨hg8, _, hcur.set _ _, by simpa using hsz⟩)
                generalize cur[j * 2 + 1] = u0 at *
                clear hcur hsz hgS HRJ hg8
                go_wp2_with fail
                go_roundg g2
                case measure => omega
                case rel => exact ⟨j + 1, by omega, by first | rfl | simp, HDN.out, HBN.out, HRN⟩
        · have p6 : ¬ ((6 : Int) < (x.kind : Int)) := by omega
          have HAC := act_any HDD.out HT.out (by omega) HOK.out HNM.out HKS.out
          unfold ptr acells at HAC
          clear HOK HKS HNM
          go_wp2_with fail
          refine HAC.mono ?_
          clear HAC
          rintro x4 w4 ⟨rfl, s', r', ha, ht'⟩
          obtain ⟨S', d1, d2, d3⟩ := ha
          have HD4 := hid d1
          have HS4 := hid (show ∀ i, S' i → w.heap.size ≤ i from fun i hi => (d2 i hi).elim (HSS.out i) (fun h => Nat.le_trans HBW.out.size h))
          have HB4 := hid (show Below w.heap.size w w4 from HBW.out.trans (d3.below HBW.out.size HSS.out))
          have HT4 := hid ht'
          clear d1 d2 d3 ht' c0 c1 c2 c3 c4 c5 c6 c7 c8
          have HTO := told_any HD4.out HT4.out (by omega)
          unfold ptr at HTO
          go_wp2_with fail
          refine HTO.mono ?_
          clear HTO
          rintro x8 w8 ⟨rfl, hb8⟩
          have HD8 := hid (HD4.out.below hb8)
          have HB8 := hid (HB4.out.trans (hb8.mono HB4.out.size))
          obtain ⟨S8, k8, _, _⟩ := HD8.out.st
          have HOB := objects_any k8 (Nat.le_trans HT4.out.len (by omega))
          unfold ptr at HOB
          clear hb8 k8 HD4 HB4
          go_wp2_with fail
          refine HOB.mono ?_
          clear HOB
          rintro x9 w9 ⟨ov, rfl, hr9, hb9⟩
          obtain ⟨oa, oc, rfl⟩ := row_slice hr9
          have HD9 := hid (HD8.out.below hb9)
          have HB9 := hid (HB8.out.trans (hb9.mono HB8.out.size))
          have hLL : s'.seen.length ≤ 1000000 := Nat.le_trans HT4.out.len (by omega)
          generalize s'.seen.length = LL at *
          have HRW := hid (show ∀ g, oa = some ⟨g, 0, none⟩ → w8.heap.size ≤ g ∧ ∃ cur, Has w9 g cur 28 ∧ LL * 2 ≤ cur.size from fun g e => by
            rcases hr9.2 with ⟨e1, _⟩ | ⟨g', cap, cur, e1, e2, e3, e4, _, e5, _⟩
            · rw [e] at e1; cases e1
            · rw [e] at e1; cases e1
              exact ⟨e2, cur, e3, by rw [e5]; omega⟩)
          have HFM := hid (show 0 < LL → ∃ g, oa = some ⟨g, 0, none⟩ from fun h0 => by
            rcases row_form hr9 with ⟨_, e, _⟩ | ⟨g, cap, e, _⟩
            · omega
            · cases e; exact ⟨g, rfl⟩)
          clear hr9 hb9
          go_wp2_with fail
          go_loopg [8] LL (fun gk s8 wx => ∃ j : Nat, j + gk = LL ∧ s8 = .int .i64 (j : Int) ∧ D2 wx S' b c s' r' ∧ Below w.heap.size w wx ∧ Hid (∀ g, oa = some ⟨g, 0, none⟩ → w8.heap.size ≤ g ∧ ∃ cur, Has wx g cur 28 ∧ LL * 2 ≤ cur.size))
          case atStart => exact ⟨0, by omega, rfl, HD9.out, HB9.out, HRW⟩
          case round =>
            clear HRW HD9 HB9
            obtain ⟨j, hj, rfl, hdj, hbj, HRJ⟩ := hrel
            have HDJ := hid hdj
            have HBJ := hid hbj
            clear hdj hbj
            cases gk with
            | zero =>
              have p1 : ¬ ((j : Int) < (LL : Int)) := by omega
              go_wp2_with fail
              go_roundg g1
              case measure => omega
              case rel => exact ⟨k + 1, b, S', s', r', by omega, by first | rfl | simp, rfl, HT4, HDJ.out, HS4.out, HBJ.out⟩
            | succ g2 =>
              have p1 : (j : Int) < (LL : Int) := by omega
              obtain ⟨g, rfl⟩ := HFM.out (by omega)
              obtain ⟨hg8, cur, hcur, hsz⟩ := HRJ.out g rfl
              have j0 : wr.cell? ⟨g, j * 2 + 1, none⟩ = some cur[j * 2 + 1] := by rw [hcur.cell]; exact Array.getElem?_eq_getElem (by omega)
              have j1 := hcur.frozen (j * 2 + 1)
              have hgS : ∀ i, S' i → i ≠ g := fun i hi e => by
                obtain ⟨_, _, _, _, _, _, _, h6⟩ := HD8.out
                have := h6 i hi
                omega
              have HDN := hid (HDJ.out.only ((Only.refl (fun i => i = g) wr).set (p := ⟨g, j * 2 + 1, none⟩) (.inl rfl) (.string ⟨#[63]⟩)) hgS)
              have HBN := hid (HBJ.out.setCell (p := ⟨g, j * 2 + 1, none⟩) (show w.heap.size ≤ g from Nat.le_trans HB8.out.size hg8) (.string ⟨#[63]⟩))
              have HRN := hid (show ∀ g', some (⟨g, 0, none⟩ : Addr) = some ⟨g', 0, none⟩ → w8.heap.size ≤ g' ∧ ∃ cur, Has (wr.setCell ⟨g, j * 2 + 1, none⟩ (.string ⟨#[63]⟩)) g' cur 28 ∧ LL * 2 ≤ cur.size from fun g' e => by
                cases e
                exact ⟨hg8, _, hcur.set _ _, by simpa using hsz⟩)
              generalize cur[j * 2 + 1] = u0 at *
              clear hcur hsz hgS HRJ hg8
              go_wp2_with fail
              go_roundg g2
              case measure => omega
              case rel => exact ⟨j + 1, by omega, by first | rfl | simp, HDN.out, HBN.out, HRN⟩
end Go.Proofs.Ytpeeelnkelnlkaa
