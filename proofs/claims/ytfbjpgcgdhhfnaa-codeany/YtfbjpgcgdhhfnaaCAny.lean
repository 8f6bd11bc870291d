/- CodeAny's walk. -/
import Derived.Test.YtfbjpgcgdhhfnaaCAnyM
import Derived.Deep.RegionHeld3
namespace Go.Proofs.Ytfbjpgcgdhhfnaa
open Go.RowKit
theorem keep_app {e e' : TypeId} {BS : Nat} {w4 W w8 : World} {ob : Obj} {va vb : Value} {xs ys : List Value} {U : Array Value} (hU : Has W BS U 4) (hb : Owns e' (BS + 1) vb ys W) (ha : Owns e (BS + 1) va xs W) (hne : e' ≠ e) (hB : Below BS w4 W)
    (hg : (W.alloc ob).grownBy w8 va.ownBlock) (hbel : Below (BS + 1) (W.alloc ob) w8) : Has w8 BS U 4 ∧ Owns e' (BS + 1) vb ys w8 ∧ Below BS w4 w8 ∧ BS + 1 ≤ w8.heap.size := by
  have hl := hU.lt
  have bo : Below (BS + 1) W (W.alloc ob) := (Below.refl _ _).alloc (by omega) ob
  have h8 := (hU.below bo (by omega)).below hbel (by omega)
  exact ⟨h8, (hb.alloc ob).kept hg (own_apart (hb.alloc ob) (ha.alloc ob) hne), (hB.alloc (by omega) ob).trans (hbel.mono (by omega)), by have := h8.lt; omega⟩
theorem psOf_lt (K : Nat) (b hs : List Nat) : ∀ i x, x ∈ (hs.map (payL K b)).getD i [] → x < 256 := fun i x hx => by
  by_cases hi : i < hs.length
  · rw [psOf_get hi] at hx; exact payL_lt _ _ _ x hx
  · rw [List.getD_eq_getElem?_getD, List.getElem?_eq_none (by simpa using hi)] at hx; simp at hx
theorem Owns.some' {e : TypeId} {base n cap : Nat} {a : Option Addr} {xs : List Value} {w : World} (h : Owns e base (.slice a n cap) xs w) (hp : 0 < xs.length) : ∃ g, a = Option.some ⟨g, 0, none⟩ ∧ base ≤ g ∧ g < w.heap.size := by
  obtain ⟨_, h2⟩ := h
  rcases h2 with ⟨_, h0⟩ | ⟨g, cap', cur, he, hg, hh, _⟩
  · omega
  · have hH : Has w g cur e := hh
    cases he; exact ⟨g, rfl, hg, hH.lt⟩
theorem tk_getD {α : Type} (l : List α) (k j : Nat) (d : α) (h : j < k) : (l.take k).getD j d = l.getD j d := by
  rw [List.getD_eq_getElem?_getD, List.getElem?_take, if_pos h, ← List.getD_eq_getElem?_getD]
theorem Strs.take {w : World} {a : Option Addr} {n cap k c : Nat} {ls : List (List Nat)} (h : Strs w (.slice a n cap) ls) (hk : k ≤ ls.length) : Strs w (.slice a k c) (ls.take k) := by
  obtain ⟨a', cap', he, hl, hx, hc⟩ := h
  cases he
  have e : (ls.take k).length = k := by rw [List.length_take]; omega
  refine ⟨a, c, by rw [e], by omega, fun i x hxi => ?_, fun hp => ?_⟩
  · by_cases hi : i < k
    · rw [tk_getD _ _ _ _ hi] at hxi; exact hx i x hxi
    · rw [List.getD_eq_getElem?_getD, List.getElem?_eq_none (by omega)] at hxi; simp at hxi
  · rw [e] at hp ⊢
    obtain ⟨g, o, ha, hg, hc⟩ := hc (by omega)
    exact ⟨g, o, ha, hg, fun j hj => by rw [hc j (by omega), tk_getD _ _ _ _ hj]⟩
theorem Mx.Ints.take {w : World} {a : Option Addr} {n cap k c : Nat} {zs : List Int} (h : Mx.Ints w (.slice a n cap) zs) (hk : k ≤ zs.length) : Mx.Ints w (.slice a k c) (zs.take k) := by
  obtain ⟨a', cap', he, hl, hc⟩ := h
  cases he
  have e : (zs.take k).length = k := by rw [List.length_take]; omega
  refine ⟨a, c, by rw [e], by omega, fun hp => ?_⟩
  rw [e] at hp ⊢
  obtain ⟨g, o, ha, hg, hc⟩ := hc (by omega)
  exact ⟨g, o, ha, hg, fun j hj => by rw [hc j (by omega), tk_getD _ _ _ _ hj]⟩
theorem Mx.Ints.setOther {w : World} {g gh i : Nat} {u : Value} {n cap : Nat} {zs : List Int} (h : Mx.Ints w (.slice (some ⟨gh, 0, none⟩) n cap) zs) (hne : gh ≠ g) : Mx.Ints (w.setCell ⟨g, i, none⟩ u) (.slice (some ⟨gh, 0, none⟩) n cap) zs := by
  obtain ⟨a', cap', he, hl, hc⟩ := h
  cases he
  refine ⟨_, _, rfl, hl, fun hp => ?_⟩
  obtain ⟨g', o, ha, hg, hc⟩ := hc hp
  cases ha
  exact ⟨_, _, rfl, by simpa [World.setCell] using hg, fun j hj => by rw [World.cell?_setCell_other _ _ _ _ (by simp <;> first | done | omega | exact fun h => absurd h (by omega))]; exact hc j hj⟩
theorem ud_is2 (z : Int) (t : Nat) {N : Nat} (h : 0 < N) (hN : N ≤ 1000000) : wrap64 ((IntKind.u64.wrap ((IntKind.u64.wrap z).tdiv (t : Int))).tmod (N : Int)) = ((ud z t N : Nat) : Int) := by
  have e : IntKind.u64.wrap ((IntKind.u64.wrap z).tdiv (t : Int)) = (IntKind.u64.wrap z).tdiv (t : Int) := by
    rw [u64_wrap z, tdiv_nat, u64_wrap]
    have h1 : (z % 18446744073709551616).toNat / t ≤ (z % 18446744073709551616).toNat := Nat.div_le_self _ _
    generalize (z % 18446744073709551616).toNat / t = q at *
    omega
  rw [e]; exact ud_is z t h hN
set_option maxRecDepth 20000 in
set_option maxHeartbeats 16000000 in
theorem any_walk (K N : Nat) (more bad : Int) (b : List Nat) (vz : Value) (zs : List Int) (x : Nat) (w : World) (h1 : 1 ≤ K) (h2 : K ≤ N) (h3 : N ≤ 12) (hz : Ints64 w vz zs) (hb : ∀ y ∈ b, y < 256) (hs : b.length ≤ 3000) (hn : zs.length ≤ 100) (hx : x < 256) :
    Calls Try.prog 6 #[cv K N, .string (ofBs b), vz, .int .i64 more, .int .i64 bad, .int .u8 (x : Int)] w fun e w' => e = .returned (.bool true) ∧ Below w.heap.size w w' := by
  have hm : Mx.mayC K N = true := by unfold Mx.mayC; simp; omega
  have bA : Below w.heap.size w (w.alloc (.cells #[.int .i64 (K : Int), .int .i64 (N : Int)] 24)) := (Below.refl _ _).alloc (Nat.le_refl _) _
  have hbox : Has (w.alloc (.cells #[.int .i64 (K : Int), .int .i64 (N : Int)] 24)) w.heap.size #[.int .i64 (K : Int), .int .i64 (N : Int)] 24 := Has.new w w.heap.size _ 24 rfl
  have HZ := hid hz
  obtain ⟨⟨az, cz, hvz, hzl, hcz⟩, hwf⟩ := hz
  subst hvz
  have HCz := hid hcz
  have HWf := hid hwf
  have hbs : (ofBs b).size = b.length := ofBs_size b
  have HE : Hid (∀ W, _) := fun W => encode_ok K N b W h1 h2 h3 (by omega) hb
  have HSz : Hid (∀ W : World, Calls Try.prog 8 #[.agg #[.int .i64 (K : Int), .int .i64 (N : Int)], .int .i64 (b.length : Int)] W fun e w' => e = .returned (.tuple #[.int .i64 ((sz K b.length : Nat) : Int), .int .i64 0]) ∧ Below W.heap.size W w') := fun W => by
    have := size_any K N (b.length : Int) W
    have ez : ansZ K N (b.length : Int) = ((sz K b.length : Nat) : Int) ∧ errZ K N (b.length : Int) = 0 := by
      unfold ansZ errZ; rw [hm]; simp; omega
    rw [ez.1, ez.2] at this; exact this
  obtain ⟨f1, f2, f3⟩ := sz_facts K b.length h1
  have f4 := sz_le K b.length h1
  obtain ⟨z, hzd⟩ : ∃ z, Hid (z = sz K b.length) := ⟨_, rfl⟩
  have HPf : Hid (∀ i, i < K → payL K b i = rowN z (fun t => pad b (i * z + t))) := fun i hi => by rw [hzd.out]; exact payL_first hb hi
  have HPl : Hid (∀ i, (payL K b i).length = z) := fun i => by rw [hzd.out]; exact payL_length K b i
  rw [← hzd.out] at f1 f2 f3 f4 HSz
  have HB := hid hb
  unfold cv at HE ⊢
  have d1 : decide ((3000 : Int) < (b.length : Int)) = false := by simp; omega
  have d2 : decide ((100 : Int) < (zs.length : Int)) = false := by simp; omega
  clear hcz hwf hb
  generalize hnz : zs.length = n at *
  go_enter Try.func6, Try.ntmps6
  go_wp2_with fail
  refine (works_true _).mono ?_
  rintro e w1 ⟨rfl, b1⟩
  have B1 := belowCall bA b1
  have hb1 := hbox.below b1 (by simp)
  have hbl1 := hb1.lt
  have c0 : w1.cell? ⟨w.heap.size, 0, none⟩ = some (.int .i64 (K : Int)) := hb1.cell 0
  have c1 : w1.cell? ⟨w.heap.size, 1, none⟩ = some (.int .i64 (N : Int)) := hb1.cell 1
  clear b1
  go_wp2_with fail
  refine (HE.out w1).mono ?_
  rintro e w2 ⟨T, rfl, hT, hTs, b2⟩
  have B2 := belowCall B1 b2
  have hb2 := hb1.below b2 hbl1
  have hbl2 := hb2.lt
  have HT := hid hT
  have hTl := hT.lt
  clear c0 c1 b2 hT HE
  have c0 : w2.cell? ⟨w.heap.size, 0, none⟩ = some (.int .i64 (K : Int)) := hb2.cell 0
  have c1 : w2.cell? ⟨w.heap.size, 1, none⟩ = some (.int .i64 (N : Int)) := hb2.cell 1
  go_wp2_with fail
  refine (HSz.out w2).mono ?_
  rintro e w3 ⟨rfl, b3⟩
  have B3 := belowCall B2 b3
  have hb3 := hb2.below b3 hbl2
  have hbl3 := hb3.lt
  have HT3 := hid (HT.out.below b3 hTl)
  have hTl3 := HT3.out.lt
  clear c0 c1 b3 HSz HT
  have c0 : w3.cell? ⟨w.heap.size, 0, none⟩ = some (.int .i64 (K : Int)) := hb3.cell 0
  have c1 : w3.cell? ⟨w.heap.size, 1, none⟩ = some (.int .i64 (N : Int)) := hb3.cell 1
  have HLc : Hid (∀ W, Below w3.heap.size w3 W → ∀ i, i < N → W.cell? ⟨T, i, none⟩ = some (.string (ofBs (payL K b i)))) := fun W hW i hi => by
    rw [(HT3.out.below hW hTl3).cell, strTo_get _ _ _ _ hi, if_pos hi]
  have HCc : Hid (∀ W, Below w3.heap.size w3 W → W.cell? ⟨w.heap.size, 0, none⟩ = some (.int .i64 (K : Int)) ∧ W.cell? ⟨w.heap.size, 1, none⟩ = some (.int .i64 (N : Int))) := fun W hW => ⟨(hb3.below hW hbl3).cell 0, (hb3.below hW hbl3).cell 1⟩
  go_wp2_with fail
  go_loopg [16, 17] N (fun g1 s16 s17 wx => ∃ i m : Nat, i + g1 = N ∧ s17 = .int .i64 (i : Int) ∧ Hid (m = min i K * z) ∧ s16 = .string (ofBs (rowN m (pad b))) ∧ wx = w3)
  case atStart => exact ⟨0, 0, by omega, rfl, by simp [Hid], rfl, rfl⟩
  case round =>
    obtain ⟨i, m, hig, rfl, hmi, rfl, rfl⟩ := hrel
    cases gk with
    | succ g1 =>
      have hzi : (i : Int) < (N : Int) := by omega
      have qi := HLc.out wr (Below.refl _ _) i (by omega)
      have hpl := HPl.out i
      have hsi : (ofBs (payL K b i)).size = z := by rw [ofBs_size]; exact hpl
      have e1 : ((z : Int) != (z : Int)) = false := by simp
      by_cases hiK : i < K
      · have hiK' : (i : Int) < (K : Int) := by omega
        have hmm : m = i * z := by rw [hmi.out, Nat.min_eq_left (by omega)]
        have happ : ofBs (rowN m (pad b)) ++ ofBs (payL K b i) = ofBs (rowN (m + z) (pad b)) := by
          rw [ofBs_app, HPf.out i hiK, ← hmm, rowN_app]
        have hm2 : Hid (m + z = min (i + 1) K * z) := by unfold Hid; rw [Nat.min_eq_left (by omega), Nat.succ_mul, hmm]
        have hsm : (ofBs (rowN m (pad b))).size = m := by rw [ofBs_size, rowN_length]
        have hmz : m + z ≤ 1000000 := by
          have : (i + 1) * z ≤ K * z := Nat.mul_le_mul_right _ (by omega)
          rw [Nat.succ_mul, ← hmm] at this; omega
        generalize ofBs (payL K b i) = sp at *
        clear hmm hmi
        go_wp2_with fail
        go_roundg g1
        case measure => omega
        case rel => exact ⟨i + 1, m + z, by omega, by first | rfl | simp, hm2, rfl, rfl⟩
      · have hiK' : ¬ (i : Int) < (K : Int) := by omega
        have hm2 : Hid (m = min (i + 1) K * z) := by unfold Hid; rw [hmi.out, Nat.min_eq_right (by omega), Nat.min_eq_right (by omega)]
        generalize ofBs (payL K b i) = sp at *
        clear hmi
        go_wp2_with fail
        go_roundg g1
        case measure => omega
        case rel => exact ⟨i + 1, m, by omega, by first | rfl | simp, hm2, rfl, rfl⟩
    | zero =>
      have hzi : ¬ (i : Int) < (N : Int) := by omega
      have hmK : m = K * z := by rw [hmi.out, Nat.min_eq_right (by omega)]
      obtain ⟨w3, hw3⟩ : ∃ w3, w3 = wr := ⟨_, rfl⟩
      subst hw3
      have hm8 : 8 + b.length ≤ m := by omega
      have hsm : (ofBs (rowN m (pad b))).size = m := by rw [ofBs_size, rowN_length]
      have hext := whole_blob HB.out hm8
      obtain ⟨hk6, hx6⟩ := whole_len (k := 6) HB.out (show 8 ≤ m by omega) (by omega)
      obtain ⟨hk7, hx7⟩ := whole_len (k := 7) HB.out (show 8 ≤ m by omega) (by omega)
      obtain ⟨_, _, _, _, _, _, l6, l7⟩ := len_small (show b.length ≤ 32768 by omega)
      have hval : ((lenB b.length 6 : Nat) : Int) * 256 + ((lenB b.length 7 : Nat) : Int) = (b.length : Int) := by rw [l6, l7]; omega
      have p6 := lenB_lt b.length 6
      have p7 := lenB_lt b.length 7
      generalize lenB b.length 6 = y6 at *
      generalize lenB b.length 7 = y7 at *
      have hse := str_eq (ofBs b)
      have eb : ((b.length : Int) != (b.length : Int)) = false := by simp
      have i1 : (8 : Int) + (b.length : Int) ≤ (m : Int) := by omega
      have i2 : (6 : Int) < (m : Int) := by omega
      have i3 : (7 : Int) < (m : Int) := by omega
      have i4 : (8 : Int) ≤ 8 + (b.length : Int) := by omega
      clear hmi hmK l6 l7
      obtain ⟨W0, hW0⟩ : ∃ W0, Hid (W0 = ofBs (rowN m (pad b))) := ⟨_, rfl⟩
      go_wp2_with fail
      go_quiet (fail)
      have hBq : Below w3.heap.size w3 (w3.drewN nq) := below_drewN (Below.refl _ _) nq
      obtain ⟨w4, hw4⟩ : ∃ w4, Hid (w4 = w3.drewN nq) := ⟨_, rfl⟩
      rw [← hw4.out] at hBq ⊢
      have hs4 : Hid (w4.heap.size = w3.heap.size) := by unfold Hid; rw [hw4.out]; rfl
      obtain ⟨mr, hmr⟩ : ∃ mr, Hid (mr = um more (N - K + 1)) := ⟨_, rfl⟩
      have hmr1 : mr < N - K + 1 := by rw [hmr.out]; exact um_lt _ (by omega)
      have hmr2 : wrap64 ((IntKind.u64.wrap more).tmod ((N : Int) - (K : Int) + 1)) = (mr : Int) := by
        rw [show (N : Int) - (K : Int) + 1 = ((N - K + 1 : Nat) : Int) by omega, um_is _ (by omega) (by omega), hmr.out]
      clear hmr
      clear hext hx6 hx7 hk6 hk7 hval hse hsm hW0 i1 i2 i3 i4 p6 p7 hm8 c0 c1 hw4 W0
      obtain ⟨c0, c1⟩ := HCc.out w4 hBq
      have hmk := makes_used N (by omega)
      have hU0 := hid (Has.new w4 w4.heap.size (usedC N []) 4 rfl)
      have bU : Below w4.heap.size w4 (w4.alloc (.cells (usedC N []) 4)) := (Below.refl _ _).alloc (Nat.le_refl _) _
      have hsU : (w4.alloc (.cells (usedC N []) 4)).heap.size = w4.heap.size + 1 := by simp
      go_wp2_with fail
      generalize hBS : w4.heap.size = BS at *
      go_loopg [18, 19, 21] (n + N) (fun g2 s18 s19 s21 wx => ∃ (j : Nat) (hs : List Nat) (ah as' : Option Addr) (ch cs : Nat), j + g2 = n + N ∧ s21 = .int .i64 (j : Int) ∧ s18 = .slice ah hs.length ch ∧ s19 = .slice as' hs.length cs ∧ hs.length ≤ K + mr ∧ Hid (∀ y, y + n < j → y ∈ hs ∨ K + mr ≤ hs.length) ∧ Hid (hs.length ≤ ch ∧ hs.length ≤ cs) ∧ Hid (hs.Nodup ∧ ∀ y ∈ hs, y < N) ∧ Hid (Owns 3 (BS + 1) (.slice ah hs.length ch) (IVs hs) wx) ∧ Hid (Owns 9 (BS + 1) (.slice as' hs.length cs) (SVs (hs.map (payL K b))) wx) ∧ Hid (Has wx BS (usedC N hs) 4) ∧ Below BS w4 wx)
      case atStart => exact ⟨0, [], none, none, 0, 0, by omega, rfl, rfl, rfl, by simp, fun y hy => absurd hy (by omega), ⟨by simp, by simp⟩, ⟨by simp, by simp⟩, Owns.nil _ _ _, Owns.nil _ _ _, hU0, bU⟩
      case round =>
        obtain ⟨j, hs, ah, as', ch, cs, hjg, rfl, rfl, rfl, hsN, hall, hcap, hnd, hO3, hO9, hU, hbj⟩ := hrel
        clear hU0 bU hsU hmk c0 c1
        have B4j : Below w3.heap.size w3 wr := hBq.trans (hbj.mono (by have := hs4.out; omega))
        obtain ⟨c0, c1⟩ := HCc.out wr B4j
        have BW := belowCall B3 B4j
        generalize hll : hs.length = ll at *
        cases gk with
        | succ g2 =>
          have hzj : (j : Int) < (n : Int) + (N : Int) := by omega
          by_cases hjn : j < n
          · have hjn' : (j : Int) < (n : Int) := by omega
            obtain ⟨gz, oz, haz, hgz, hdz⟩ := HCz.out (by omega)
            subst haz
            have q0 := cell_below BW hgz (hdz j hjn)
            obtain ⟨zj, hzj'⟩ : ∃ zj, Hid (zj = zs.getD j 0) := ⟨_, rfl⟩
            rw [← hzj'.out] at q0
            obtain ⟨v, hvd⟩ : ∃ v, Hid (v = um zj N) := ⟨_, rfl⟩
            have hvN : v < N := by rw [hvd.out]; exact um_lt _ (by omega)
            have hv1 : wrap64 ((IntKind.u64.wrap zj).tmod (N : Int)) = (v : Int) := by rw [um_is _ (by omega) (by omega), hvd.out]
            have HALL : ∀ y, y + n < j + 1 → (v ∈ hs ∨ False) → y ∈ hs ∨ K + mr ≤ ll := fun y hy _ => absurd hy (by omega)
            have HALL2 : ∀ y, y + n < j + 1 → y ∈ hs ∨ y = v ∨ K + mr ≤ ll := fun y hy => absurd hy (by omega)
            go_wp2_with fail
            go_quiet (fail)
            have HBq := below_drewN hbj nq
            have HO3q : Hid (Owns 3 (BS + 1) (.slice ah ll ch) (IVs hs) (wr.drewN nq)) := hO3.out
            have HO9q : Hid (Owns 9 (BS + 1) (.slice as' ll cs) (SVs (hs.map (payL K b))) (wr.drewN nq)) := hO9.out
            have HUq : Hid (Has (wr.drewN nq) BS (usedC N hs) 4) := hU.out
            rw [hv1]
            clear q0 c0 c1 hv1 hU hO3 hO9
            generalize wr.drewN nq = wq at *
            have hvl : (v : Int) < (N : Int) := by omega
            have BWq : Below BS w4 wq := HBq
            have B3q : Below w3.heap.size w3 wq := hBq.trans (BWq.mono (by have := hs4.out; omega))
            obtain ⟨c0, c1⟩ := HCc.out wq B3q
            have qU := (HUq.out.cell v).trans (usedC_get N hs v (by omega))
            have qL := HLc.out wq B3q v (by omega)
            by_cases hin : v ∈ hs
            · rw [decide_eq_true hin] at qU
              have hall' : Hid (∀ y, y + n < j + 1 → y ∈ hs ∨ K + mr ≤ ll) := fun y hy => HALL y hy (.inl hin)
              go_wp2_with fail
              go_quiet (fail)
              go_wp2_with fail
              go_roundg g2
              case measure => omega
              case rel => exact ⟨j + 1, hs, ah, as', ch, cs, by omega, by first | rfl | simp, by rw [hll], by rw [hll], by rw [hll]; exact hsN, (by rw [hll]; exact hall'), (by rw [hll]; exact hcap), hnd, (by rw [hll]; exact HO3q), (by rw [hll]; exact HO9q), HUq, below_drewN BWq _⟩
            · rw [decide_eq_false hin] at qU
              by_cases hroom : ll < K + mr
              · have d5 : decide ((ll : Int) < (K : Int) + (mr : Int)) = true := by simp; omega
                have hnd' : Hid ((hs ++ [v]).Nodup ∧ ∀ y ∈ hs ++ [v], y < N) := by
                  refine ⟨?_, fun y hy => ?_⟩
                  · rw [List.nodup_append]
                    exact ⟨hnd.out.1, by simp, fun a ha b hb => by simp at hb; subst hb; exact fun e => hin (e ▸ ha)⟩
                  · rcases List.mem_append.1 hy with hy | hy
                    · exact hnd.out.2 y hy
                    · simp at hy; omega
                have hl1 : (hs ++ [v]).length = ll + 1 := by rw [List.length_append, hll]; rfl
                have hall' : Hid (∀ y, y + n < j + 1 → y ∈ hs ++ [v] ∨ K + mr ≤ ll + 1) := fun y hy => by
                  rcases HALL2 y hy with h | h | h
                  · exact .inl (List.mem_append_left _ h)
                  · exact .inl (by rw [h]; simp)
                  · exact .inr (by omega)
                have HLb : Hid (∀ W, Below BS w4 W → W.cell? ⟨T, v, none⟩ = some (.string (ofBs (payL K b v)))) := fun W hW => HLc.out W (hBq.trans (hW.mono (by have := hs4.out; omega))) v (by omega)
                clear qL
                go_wp2_with fail
                go_quiet (fail)
                have hUd : Has (wq.drewN nq) BS (usedC N hs) 4 := HUq.out
                have HO3d : Hid (Owns 3 (BS + 1) (.slice ah ll ch) (IVs hs) (wq.drewN nq)) := HO3q.out
                have HO9d : Hid (Owns 9 (BS + 1) (.slice as' ll cs) (SVs (hs.map (payL K b))) (wq.drewN nq)) := HO9q.out
                have BWd := below_drewN BWq nq
                clear c0 c1 qU HUq HO3q HO9q B3q BWq HBq
                generalize wq.drewN nq = wd at *
                have qF := hUd.frozen v
                have qC := (hUd.cell v).trans (usedC_get N hs v (by omega))
                rw [decide_eq_false hin] at qC
                have hU2 := hUd.set v (.bool true)
                rw [usedC_set] at hU2
                have hO3b := HO3d.out.set (g := BS) (i := v) (u := .bool true) (by omega)
                have hO9b := HO9d.out.set (g := BS) (i := v) (u := .bool true) (by omega)
                have hBb : Below BS w4 (wd.setCell ⟨BS, v, none⟩ (.bool true)) := BWd.setCell (Nat.le_refl _) _
                have hszb := hU2.lt
                have HSet : Hid (Has (wd.setCell ⟨BS, v, none⟩ (.bool true)) BS (usedC N (hs ++ [v])) 4 ∧ Owns 3 (BS + 1) (.slice ah ll ch) (IVs hs) (wd.setCell ⟨BS, v, none⟩ (.bool true)) ∧ Owns 9 (BS + 1) (.slice as' ll cs) (SVs (hs.map (payL K b))) (wd.setCell ⟨BS, v, none⟩ (.bool true)) ∧ Below BS w4 (wd.setCell ⟨BS, v, none⟩ (.bool true)) ∧ BS < (wd.setCell ⟨BS, v, none⟩ (.bool true)).heap.size) := ⟨hU2, hO3b, hO9b, hBb, hszb⟩
                have HUd := hid hUd
                clear hU2 hO3b hO9b hBb hszb hUd HO3d HO9d
                go_wp2_with (first | (refine wpList_appI2 rfl (.tmp 163) (.tmp 165) rfl (BS + 1) _ hs v (ll + 1) rfl (by exact HSet.out.2.1.alloc _) _ 1 rfl (by exact Has.new _ _ _ _ (by first | rfl | simp)) (by rw [hll]) (by omega) (by have := HSet.out.2.2.2.2; first | omega | (simp at this ⊢; omega)) ?_; intro g7 cap7 w7 ho7 hg7 hc7 hb7; have HO7 := hid ho7; have HC7 := hid hc7; have HK7 := hid (keep_app HSet.out.1 HSet.out.2.2.1 HSet.out.2.1 (by decide) HSet.out.2.2.2.1 hg7 hb7); have qL := HLb.out w7 HK7.out.2.2.1; clear ho7 hg7 hc7 hb7 HSet qF qC HUd BWd) | (refine wpList_appS2 rfl (.tmp 167) (.tmp 172) rfl (BS + 1) _ (hs.map (payL K b)) (payL K b v) (ll + 1) rfl (by exact HK7.out.2.1.alloc _) _ 1 rfl (by exact Has.new _ _ _ _ rfl) (by rw [List.length_map, hll]) (by omega) (by have := HK7.out.2.2.2; simp; omega) ?_; intro g8 cap8 w8 ho8 hg8 hc8 hb8; have HO8 := hid ho8; have HC8 := hid hc8; have HK8 := hid (keep_app HK7.out.1 HO7.out HK7.out.2.1 (by decide) HK7.out.2.2.1 hg8 hb8); clear ho8 hg8 hc8 hb8 HK7 HO7 qL))
                go_roundg g2
                case measure => omega
                case rel => exact ⟨j + 1, hs ++ [v], some ⟨g7, 0, none⟩, some ⟨g8, 0, none⟩, cap7, cap8, by omega, by first | rfl | simp, by rw [hl1], by rw [hl1], by rw [hl1]; omega, (by rw [hl1]; exact hall'), (by rw [hl1]; exact ⟨HC7.out, HC8.out⟩), hnd', (by rw [hl1]; exact HK8.out.2.1), (by rw [hl1, List.map_append]; exact HO8), HK8.out.1, HK8.out.2.2.1⟩
              · have d5 : decide ((ll : Int) < (K : Int) + (mr : Int)) = false := by simp; omega
                have hall' : Hid (∀ y, y + n < j + 1 → y ∈ hs ∨ K + mr ≤ ll) := fun y hy => .inr (by omega)
                go_wp2_with fail
                go_quiet (fail)
                go_wp2_with fail
                go_roundg g2
                case measure => omega
                case rel => exact ⟨j + 1, hs, ah, as', ch, cs, by omega, by first | rfl | simp, by rw [hll], by rw [hll], by rw [hll]; exact hsN, (by rw [hll]; exact hall'), (by rw [hll]; exact hcap), hnd, (by rw [hll]; exact HO3q), (by rw [hll]; exact HO9q), HUq, below_drewN BWq _⟩
          · have hjn' : ¬ (j : Int) < (n : Int) := by omega
            obtain ⟨v, hvd⟩ : ∃ v, Hid (v = j - n) := ⟨_, rfl⟩
            have hvd' := hvd.out
            have hvN : v < N := by omega
            have hv1 : (j : Int) - (n : Int) = (v : Int) := by omega
            have HALL : ∀ y, y + n < j + 1 → (v ∈ hs ∨ False) → y ∈ hs ∨ K + mr ≤ ll := fun y hy hv => by
              by_cases hyj : y + n < j
              · exact hall.out y hyj
              · obtain rfl : y = v := by omega
                exact .inl (hv.resolve_right id)
            have HALL2 : ∀ y, y + n < j + 1 → y ∈ hs ∨ y = v ∨ K + mr ≤ ll := fun y hy => by
              by_cases hyj : y + n < j
              · rcases hall.out y hyj with h | h
                · exact .inl h
                · exact .inr (.inr h)
              · exact .inr (.inl (by omega))
            have HBq := hbj
            have HO3q := hO3
            have HO9q := hO9
            have HUq := hU
            clear c0 c1 hU hO3 hO9 hvd'
            obtain ⟨wq, hwq⟩ : ∃ wq, wq = wr := ⟨_, rfl⟩
            subst hwq
            have hvl : (v : Int) < (N : Int) := by omega
            have BWq : Below BS w4 wq := HBq
            have B3q : Below w3.heap.size w3 wq := hBq.trans (BWq.mono (by have := hs4.out; omega))
            obtain ⟨c0, c1⟩ := HCc.out wq B3q
            have qU := (HUq.out.cell v).trans (usedC_get N hs v (by omega))
            have qL := HLc.out wq B3q v (by omega)
            by_cases hin : v ∈ hs
            · rw [decide_eq_true hin] at qU
              have hall' : Hid (∀ y, y + n < j + 1 → y ∈ hs ∨ K + mr ≤ ll) := fun y hy => HALL y hy (.inl hin)
              go_wp2_with fail
              go_quiet (fail)
              go_wp2_with fail
              go_roundg g2
              case measure => omega
              case rel => exact ⟨j + 1, hs, ah, as', ch, cs, by omega, by first | rfl | simp, by rw [hll], by rw [hll], by rw [hll]; exact hsN, (by rw [hll]; exact hall'), (by rw [hll]; exact hcap), hnd, (by rw [hll]; exact HO3q), (by rw [hll]; exact HO9q), HUq, below_drewN BWq _⟩
            · rw [decide_eq_false hin] at qU
              by_cases hroom : ll < K + mr
              · have d5 : decide ((ll : Int) < (K : Int) + (mr : Int)) = true := by simp; omega
                have hnd' : Hid ((hs ++ [v]).Nodup ∧ ∀ y ∈ hs ++ [v], y < N) := by
                  refine ⟨?_, fun y hy => ?_⟩
                  · rw [List.nodup_append]
                    exact ⟨hnd.out.1, by simp, fun a ha b hb => by simp at hb; subst hb; exact fun e => hin (e ▸ ha)⟩
                  · rcases List.mem_append.1 hy with hy | hy
                    · exact hnd.out.2 y hy
                    · simp at hy; omega
                have hl1 : (hs ++ [v]).length = ll + 1 := by rw [List.length_append, hll]; rfl
                have hall' : Hid (∀ y, y + n < j + 1 → y ∈ hs ++ [v] ∨ K + mr ≤ ll + 1) := fun y hy => by
                  rcases HALL2 y hy with h | h | h
                  · exact .inl (List.mem_append_left _ h)
                  · exact .inl (by rw [h]; simp)
                  · exact .inr (by omega)
                have HLb : Hid (∀ W, Below BS w4 W → W.cell? ⟨T, v, none⟩ = some (.string (ofBs (payL K b v)))) := fun W hW => HLc.out W (hBq.trans (hW.mono (by have := hs4.out; omega))) v (by omega)
                clear qL
                go_wp2_with fail
                go_quiet (fail)
                have hUd : Has (wq.drewN nq) BS (usedC N hs) 4 := HUq.out
                have HO3d : Hid (Owns 3 (BS + 1) (.slice ah ll ch) (IVs hs) (wq.drewN nq)) := HO3q.out
                have HO9d : Hid (Owns 9 (BS + 1) (.slice as' ll cs) (SVs (hs.map (payL K b))) (wq.drewN nq)) := HO9q.out
                have BWd := below_drewN BWq nq
                clear c0 c1 qU HUq HO3q HO9q B3q BWq HBq
                generalize wq.drewN nq = wd at *
                have qF := hUd.frozen v
                have qC := (hUd.cell v).trans (usedC_get N hs v (by omega))
                rw [decide_eq_false hin] at qC
                have hU2 := hUd.set v (.bool true)
                rw [usedC_set] at hU2
                have hO3b := HO3d.out.set (g := BS) (i := v) (u := .bool true) (by omega)
                have hO9b := HO9d.out.set (g := BS) (i := v) (u := .bool true) (by omega)
                have hBb : Below BS w4 (wd.setCell ⟨BS, v, none⟩ (.bool true)) := BWd.setCell (Nat.le_refl _) _
                have hszb := hU2.lt
                have HSet : Hid (Has (wd.setCell ⟨BS, v, none⟩ (.bool true)) BS (usedC N (hs ++ [v])) 4 ∧ Owns 3 (BS + 1) (.slice ah ll ch) (IVs hs) (wd.setCell ⟨BS, v, none⟩ (.bool true)) ∧ Owns 9 (BS + 1) (.slice as' ll cs) (SVs (hs.map (payL K b))) (wd.setCell ⟨BS, v, none⟩ (.bool true)) ∧ Below BS w4 (wd.setCell ⟨BS, v, none⟩ (.bool true)) ∧ BS < (wd.setCell ⟨BS, v, none⟩ (.bool true)).heap.size) := ⟨hU2, hO3b, hO9b, hBb, hszb⟩
                have HUd := hid hUd
                clear hU2 hO3b hO9b hBb hszb hUd HO3d HO9d
                go_wp2_with (first | (refine wpList_appI2 rfl (.tmp 163) (.tmp 165) rfl (BS + 1) _ hs v (ll + 1) rfl (by exact HSet.out.2.1.alloc _) _ 1 rfl (by exact Has.new _ _ _ _ (by first | rfl | simp)) (by rw [hll]) (by omega) (by have := HSet.out.2.2.2.2; first | omega | (simp at this ⊢; omega)) ?_; intro g7 cap7 w7 ho7 hg7 hc7 hb7; have HO7 := hid ho7; have HC7 := hid hc7; have HK7 := hid (keep_app HSet.out.1 HSet.out.2.2.1 HSet.out.2.1 (by decide) HSet.out.2.2.2.1 hg7 hb7); have qL := HLb.out w7 HK7.out.2.2.1; clear ho7 hg7 hc7 hb7 HSet qF qC HUd BWd) | (refine wpList_appS2 rfl (.tmp 167) (.tmp 172) rfl (BS + 1) _ (hs.map (payL K b)) (payL K b v) (ll + 1) rfl (by exact HK7.out.2.1.alloc _) _ 1 rfl (by exact Has.new _ _ _ _ rfl) (by rw [List.length_map, hll]) (by omega) (by have := HK7.out.2.2.2; simp; omega) ?_; intro g8 cap8 w8 ho8 hg8 hc8 hb8; have HO8 := hid ho8; have HC8 := hid hc8; have HK8 := hid (keep_app HK7.out.1 HO7.out HK7.out.2.1 (by decide) HK7.out.2.2.1 hg8 hb8); clear ho8 hg8 hc8 hb8 HK7 HO7 qL))
                go_roundg g2
                case measure => omega
                case rel => exact ⟨j + 1, hs ++ [v], some ⟨g7, 0, none⟩, some ⟨g8, 0, none⟩, cap7, cap8, by omega, by first | rfl | simp, by rw [hl1], by rw [hl1], by rw [hl1]; omega, (by rw [hl1]; exact hall'), (by rw [hl1]; exact ⟨HC7.out, HC8.out⟩), hnd', (by rw [hl1]; exact HK8.out.2.1), (by rw [hl1, List.map_append]; exact HO8), HK8.out.1, HK8.out.2.2.1⟩
              · have d5 : decide ((ll : Int) < (K : Int) + (mr : Int)) = false := by simp; omega
                have hall' : Hid (∀ y, y + n < j + 1 → y ∈ hs ∨ K + mr ≤ ll) := fun y hy => .inr (by omega)
                go_wp2_with fail
                go_quiet (fail)
                go_wp2_with fail
                go_roundg g2
                case measure => omega
                case rel => exact ⟨j + 1, hs, ah, as', ch, cs, by omega, by first | rfl | simp, by rw [hll], by rw [hll], by rw [hll]; exact hsN, (by rw [hll]; exact hall'), (by rw [hll]; exact hcap), hnd, (by rw [hll]; exact HO3q), (by rw [hll]; exact HO9q), HUq, below_drewN BWq _⟩
        | zero =>
          have hzj : ¬ (j : Int) < (n : Int) + (N : Int) := by omega
          have hfull : ll = K + mr := by
            have := hs_full (N := N) (L := K + mr) (hs := hs) (fun y hy => by have := hall.out y (by omega); rw [hll]; exact this) (by omega) (by omega)
            omega
          have hKl : K ≤ ll := by omega
          have hlN : ll ≤ N := by omega
          clear hfull
          obtain ⟨gh, rfl, hgh1, hgh2⟩ := hO3.out.some' (by rw [IVs_length]; omega)
          obtain ⟨gs, rfl, hgs1, hgs2⟩ := hO9.out.some' (by rw [SVs_length, List.length_map]; omega)
          have hgne : Hid (gh ≠ gs) := by
            have := own_apart hO3.out hO9.out (by decide)
            simpa [Value.ownBlock, Hid] using this
          have HI : Hid (Ints64 wr (.slice (some ⟨gh, 0, none⟩) ll ch) (zsOf hs)) := ⟨hO3.out.ints (by omega), zs64 hnd.out.2 (by omega)⟩
          have HS : Hid (Strs wr (.slice (some ⟨gs, 0, none⟩) ll cs) (hs.map (payL K b))) := hO9.out.strs (psOf_lt K b hs) (by simp; omega)
          obtain ⟨w4b, hw4b⟩ : ∃ w4b, w4b = wr := ⟨_, rfl⟩
          subst hw4b
          have HD : Hid (∀ W, Below w4b.heap.size w4b W → Calls Try.prog 10 #[.agg #[.int .i64 (K : Int), .int .i64 (N : Int)], .slice (some ⟨gh, 0, none⟩) ll ch, .slice (some ⟨gs, 0, none⟩) ll cs] W fun e w' => e = .returned (.tuple #[.string (ofBs b), .int .i64 0]) ∧ Below W.heap.size W w') := fun W hW => by
            refine (decode_any K N _ _ (zsOf hs) (hs.map (payL K b)) W ⟨HI.out.1.below hW, HI.out.2⟩ (HS.out.below hW)).mono ?_
            rintro e w' ⟨s, er, rfl, hd, hb⟩
            obtain ⟨e1, e2⟩ := dec_hs h1 h2 h3 HB.out (by omega) hnd.out (by rw [hll]; exact hKl) hd
            rw [e1, e2]; exact ⟨rfl, hb⟩
          have HR : Hid (∀ y, y < N → ∀ W, Below w4b.heap.size w4b W → Calls Try.prog 11 #[.agg #[.int .i64 (K : Int), .int .i64 (N : Int)], .slice (some ⟨gh, 0, none⟩) ll ch, .slice (some ⟨gs, 0, none⟩) ll cs, .int .i64 (y : Int)] W fun e w' => e = .returned (.tuple #[.string (ofBs (payL K b y)), .int .i64 0]) ∧ Below W.heap.size W w') := fun y hy W hW => by
            refine (rebuild_any K N y _ _ (zsOf hs) (hs.map (payL K b)) W ⟨HI.out.1.below hW, HI.out.2⟩ (HS.out.below hW)).mono ?_
            rintro e w' ⟨s, er, rfl, hd, _, hb⟩
            obtain ⟨e1, e2⟩ := reb_hs h1 h2 h3 HB.out (by omega) hnd.out (by rw [hll]; exact hKl) hy hd
            rw [e1, e2]; exact ⟨rfl, hb⟩
          obtain ⟨K1, hK1⟩ : ∃ K1, Hid (K1 = K - 1) := ⟨_, rfl⟩
          have hK1i : (K : Int) - 1 = (K1 : Int) := by rw [hK1.out]; omega
          have HDf : Hid (∀ W, Below w4b.heap.size w4b W → Calls Try.prog 10 #[.agg #[.int .i64 (K : Int), .int .i64 (N : Int)], .slice (some ⟨gh, 0, none⟩) K1 ch, .slice (some ⟨gs, 0, none⟩) K1 cs] W fun e w' => ∃ s, e = .returned (.tuple #[.string (ofBs s), .int .i64 54]) ∧ Below w4b.heap.size w4b w' ∧ w'.cell? ⟨w.heap.size, 0, none⟩ = some (.int .i64 (K : Int)) ∧ w'.cell? ⟨w.heap.size, 1, none⟩ = some (.int .i64 (N : Int))) := fun W hW => by
            have hkl : K1 ≤ hs.length := by rw [hll, hK1.out]; omega
            have hI := HI.out.1.take (k := K1) (c := ch) (by rw [zsOf_length]; exact hkl)
            have hS := HS.out.take (k := K1) (c := cs) (by rw [List.length_map]; exact hkl)
            rw [zsOf_take] at hI
            rw [← List.map_take] at hS
            have hnt : (hs.take K1).Nodup ∧ ∀ y ∈ hs.take K1, y < N := ⟨hnd.out.1.sublist (List.take_sublist _ _), fun y hy => hnd.out.2 y (List.mem_of_mem_take hy)⟩
            refine (decode_any K N _ _ (zsOf (hs.take K1)) ((hs.take K1).map (payL K b)) W ⟨hI.below hW, zs64 hnt.2 (by omega)⟩ (hS.below hW)).mono ?_
            rintro e w' ⟨s, er, rfl, hd, hb⟩
            obtain ⟨e1, e2⟩ := dec_few h1 h2 h3 hnt (by rw [List.length_take, hK1.out]; omega) hd
            have h8 := hW.trans (hb.mono hW.size)
            rw [e2]; exact ⟨s, rfl, h8, HCc.out w' (B4j.trans (h8.mono B4j.size))⟩
          have HO9f := hid hO9.out
          have hcap1 : (K1 : Int) ≤ (ch : Int) := by have := hcap.out.1; have := hK1.out; omega
          have hcap2 : (K1 : Int) ≤ (cs : Int) := by have := hcap.out.2; have := hK1.out; omega
          clear hall hO3 hO9 hU
          go_wp2_with fail
          refine (HD.out w4b (Below.refl _ _)).mono ?_
          rintro e w5 ⟨rfl, b5⟩
          have B5 : Below w3.heap.size w3 w5 := B4j.trans (b5.mono B4j.size)
          clear c0 c1
          obtain ⟨c0, c1⟩ := HCc.out w5 B5
          have hse := str_eq (ofBs b)
          have HB5 := hid b5
          clear b5 HD
          go_wp2_with fail
          go_loopg [24] N (fun g3 s24 wx => ∃ k : Nat, k + g3 = N ∧ s24 = .int .i64 (k : Int) ∧ Below w5.heap.size w5 wx)
          case atStart => exact ⟨0, by omega, rfl, Below.refl _ _⟩
          case round =>
            obtain ⟨k, hkg, rfl, hbk⟩ := hrel
            clear c0 c1 hse
            have Bk : Below w3.heap.size w3 wr := B5.trans (hbk.mono B5.size)
            obtain ⟨c0, c1⟩ := HCc.out wr Bk
            have B4k : Below w4b.heap.size w4b wr := HB5.out.trans (hbk.mono HB5.out.size)
            cases gk with
            | succ g3 =>
              have hzk : (k : Int) < (N : Int) := by omega
              clear hcap1 hcap2 hK1i
              go_wp2_with fail
              refine (HR.out k (by omega) wr B4k).mono ?_
              rintro e w6 ⟨rfl, b6⟩
              have B6 : Below w5.heap.size w5 w6 := hbk.trans (b6.mono hbk.size)
              have qk := HLc.out w6 (B5.trans (B6.mono B5.size)) k (by omega)
              have hse := str_eq (ofBs (payL K b k))
              generalize ofBs (payL K b k) = sp at *
              clear c0 c1 b6
              go_wp2_with fail
              go_roundg g3
              case measure => omega
              case rel => exact ⟨k + 1, by omega, by first | rfl | simp, B6⟩
            | zero =>
              have hzk : ¬ (k : Int) < (N : Int) := by omega
              obtain ⟨w7, hw7⟩ : ∃ w7, w7 = wr := ⟨_, rfl⟩
              subst hw7
              clear HR
              have hK1' : (0 : Int) ≤ (K1 : Int) := by omega
              have hw1 : IntKind.i64.wrap (K1 : Int) = (K1 : Int) := by rw [IntKind.wrap_i64]; omega
              go_wp2_with fail
              go_region_held3 (fun w' => w'.cell? ⟨w.heap.size, 0, none⟩ = some (.int .i64 (K : Int)) ∧ w'.cell? ⟨w.heap.size, 1, none⟩ = some (.int .i64 (N : Int))) (go_keep) (first | (go_at_call 10; refine (HDf.out _ (by first | exact B4k | exact B4k.drew | exact below_drewN B4k _)).mono ?_; rintro e w8 ⟨s8, rfl, B8, c0', c1'⟩))
              all_goals
                have B38 : Below w3.heap.size w3 w8 := B4j.trans (B8.mono B4j.size)
                clear c0 c1 c0' c1' hw1 hcap1 hcap2 hK1i hK1' HDf
                obtain ⟨c0, c1⟩ := HCc.out w8 B38
                by_cases hlK : ll = K
                · have d6 : ((ll : Int) == (K : Int)) = true := by simp [hlK]
                  have HlK := hid hlK
                  clear hlK
                  go_wp2_with fail
                  go_ret
                  exact ⟨rfl, belowCall B3 B38⟩
                · have d6 : ((ll : Int) == (K : Int)) = false := by simp; omega
                  obtain ⟨k0, hk0⟩ : ∃ k0, Hid (k0 = um bad ll) := ⟨_, rfl⟩
                  have hk0l : k0 < ll := by rw [hk0.out]; exact um_lt _ (by omega)
                  have hk1 : wrap64 ((IntKind.u64.wrap bad).tmod (ll : Int)) = (k0 : Int) := by rw [um_is _ (by omega) (by omega), hk0.out]
                  obtain ⟨a0, ha0⟩ : ∃ a0, Hid (a0 = ud bad ll z) := ⟨_, rfl⟩
                  have ha0l : a0 < z := by rw [ha0.out]; exact ud_lt _ _ (by omega)
                  have ha1 : wrap64 ((IntKind.u64.wrap ((IntKind.u64.wrap bad).tdiv (ll : Int))).tmod (z : Int)) = (a0 : Int) := by rw [ud_is2 _ _ (by omega) (by omega), ha0.out]
                  obtain ⟨pk, hpk⟩ : ∃ pk, Hid (pk = payL K b (hs.getD k0 0)) := ⟨_, rfl⟩
                  have hpl : pk.length = z := by rw [hpk.out]; exact HPl.out _
                  have hplt : ∀ y ∈ pk, y < 256 := by rw [hpk.out]; exact payL_lt _ _ _
                  have qs : w8.cell? ⟨gs, k0, none⟩ = some (.string (ofBs pk)) := by
                    obtain ⟨a', c', he, _, _, hc⟩ := HS.out.below B8
                    cases he
                    obtain ⟨g', o', ha, _, hc⟩ := hc (by rw [List.length_map, hll]; omega)
                    cases ha
                    have := hc k0 (by rw [List.length_map, hll]; exact hk0l)
                    rw [Nat.zero_add, psOf_get (by rw [hll]; exact hk0l), ← hpk.out] at this
                    exact this
                  obtain ⟨cap, w9, hcv, b9, hs9, hf9, hc9, hback⟩ := conv_bytes2 w8 pk hplt (by omega) a0 x (by omega) hx
                  rw [hpl] at hcv hback
                  have hpset : ∀ y ∈ pk.set a0 x, y < 256 := fun y hy => by
                    rcases List.mem_or_eq_of_mem_set hy with h | h
                    · exact hplt y h
                    · omega
                  obtain ⟨_, _, _, _, hput⟩ := HO9f.out.putS (psOf_lt K b hs) (by rw [List.length_map]; omega) k0 (pk.set a0 x) (by rw [List.length_map, hll]; exact hk0l) hpset
                  have hgs8 : gs < w8.heap.size := Nat.lt_of_lt_of_le hgs2 B8.size
                  have hgs9 : gs ≠ w8.heap.size := by omega
                  have B9 : Below w4b.heap.size w4b w9 := B8.trans (b9.mono B8.size)
                  have hA : (w9.setCell ⟨w8.heap.size, a0, none⟩ (.int .u8 (x : Int))).heap[gs]? = w4b.heap[gs]? := by
                    rw [Below.heap_setCell _ _ _ _ hgs9]; exact B9.block gs hgs2
                  obtain ⟨hfz, hStr⟩ := hput _ hA
                  have hcA : (w9.setCell ⟨w8.heap.size, a0, none⟩ (.int .u8 (x : Int))).cell? ⟨gs, k0, none⟩ = some (.string (ofBs pk)) := by
                    have := qs
                    simp only [World.cell?] at this ⊢
                    rw [hA, ← B8.block gs hgs2]; exact this
                  have BA : Below w4b.heap.size w4b (w9.setCell ⟨w8.heap.size, a0, none⟩ (.int .u8 (x : Int))) := B9.setCell B8.size _
                  have hInt := (HI.out.1.below BA).setOther (i := k0) (u := .string (ofBs (pk.set a0 x))) hgne.out
                  have BB : Below w3.heap.size w3 ((w9.setCell ⟨w8.heap.size, a0, none⟩ (.int .u8 (x : Int))).setCell ⟨gs, k0, none⟩ (.string (ofBs (pk.set a0 x)))) := (B4j.trans (BA.mono B4j.size)).setCell (by have := hs4.out; show w3.heap.size ≤ gs; omega) _
                  have hdec : Hid (Calls Try.prog 10 #[.agg #[.int .i64 (K : Int), .int .i64 (N : Int)], .slice (some ⟨gh, 0, none⟩) ll ch, .slice (some ⟨gs, 0, none⟩) ll cs] ((w9.setCell ⟨w8.heap.size, a0, none⟩ (.int .u8 (x : Int))).setCell ⟨gs, k0, none⟩ (.string (ofBs (pk.set a0 x)))) fun e w' => ∃ s, e = .returned (.tuple #[.string (ofBs s), .int .i64 (if pk.getD a0 0 = x then 0 else 4)]) ∧ Below w3.heap.size w3 w') := by
                    refine (decode_any K N _ _ (zsOf hs) _ _ ⟨hInt, HI.out.2⟩ hStr).mono ?_
                    rintro e w' ⟨s, er, rfl, hd, hb⟩
                    rw [hpk.out] at hd
                    have := dec_put h1 h2 h3 HB.out (by omega) hnd.out (by rw [hll]; omega) (by rw [hll]; exact hk0l) (by rw [← hzd.out]; exact ha0l) hd
                    rw [← hpk.out] at this
                    exact ⟨s, by rw [this], BB.trans (hb.mono BB.size)⟩
                  obtain ⟨cB0, cB1⟩ := HCc.out _ BB
                  have hk0i : (k0 : Int) < (ll : Int) := by omega
                  have ha0i : (a0 : Int) < (z : Int) := by omega
                  have hz0 : 0 < z := by omega
                  have HBB := hid BB
                  clear hStr hInt BB BA hA hput hgs8 hgs9 hpset hplt b9 hs9
                  obtain ⟨cx, hcx⟩ : ∃ cx, cx = pk.getD a0 0 := ⟨_, rfl⟩
                  rw [← hcx] at hdec hc9
                  generalize ofBs (pk.set a0 x) = sq at *
                  generalize ofBs pk = sp at *
                  clear hcx hpk hpl
                  by_cases hxx : cx = x
                  · have d7 : ((cx : Int) == (x : Int)) = true := by simp [hxx]
                    rw [if_pos hxx] at hdec
                    clear hxx
                    go_wp2_with fail
                    refine hdec.out.mono ?_
                    rintro e wz ⟨sz', rfl, bz⟩
                    go_wp2_with fail
                    go_ret
                    exact ⟨rfl, belowCall B3 bz⟩
                  · have d7 : ((cx : Int) == (x : Int)) = false := by simp; omega
                    rw [if_neg hxx] at hdec
                    clear hxx
                    go_wp2_with fail
                    refine hdec.out.mono ?_
                    rintro e wz ⟨sz', rfl, bz⟩
                    go_wp2_with fail
                    go_ret
                    exact ⟨rfl, belowCall B3 bz⟩
end Go.Proofs.Ytfbjpgcgdhhfnaa
