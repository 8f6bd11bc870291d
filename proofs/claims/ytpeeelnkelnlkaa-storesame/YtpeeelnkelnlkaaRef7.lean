/- StoreRefused, walked: what was refused changes nothing that is seen; one write is refused, and no more. -/
import Derived.Test.YtpeeelnkelnlkaaEnv
import Derived.Test.YtpeeelnkelnlkaaWorks
namespace Go.Proofs.Ytpeeelnkelnlkaa
open Go.RowKit Go.Maps
/-- where the walk stands: how many were done, how many refused -/
def Stand (A dn rf : Nat) (s : St) : Prop := s.down = false ∧ ((rf = 0 ∧ ∃ m, s.refuse = some m ∧ dn + m = A) ∨ (rf = 1 ∧ s.refuse = none))
theorem Stand.ok {A dn rf : Nat} {s s' : St} {n : ByteArray} {c : Option ByteArray} (h : Stand A dn rf s) {e : Int} (hd : Did s n c e s') (he : e = 0) : Stand A (dn + 1) rf s' := by
  cases hd with
  | no => cases he
  | ok r hr =>
    refine ⟨h.1, ?_⟩
    rcases h.2 with ⟨h0, m, h1, h2⟩ | ⟨h0, h1⟩
    · rcases hr with ⟨h3, _⟩ | ⟨m', h3, h4⟩
      · rw [h1] at h3; cases h3
      · rw [h1] at h3; cases h3
        exact .inl ⟨h0, m', h4, by omega⟩
    · rcases hr with ⟨_, h3⟩ | ⟨m', h3, h4⟩
      · exact .inr ⟨h0, h3⟩
      · rw [h1] at h3; cases h3
theorem Stand.no {A dn rf : Nat} {s s' : St} {n : ByteArray} {c : Option ByteArray} (h : Stand A dn rf s) {e : Int} (hd : Did s n c e s') (he : e = 53) : Stand A dn 1 s' ∧ dn = A ∧ rf = 0 ∧ s'.seen = s.seen := by
  cases hd with
  | ok => cases he
  | no hr =>
    rcases h.2 with ⟨h0, m, h1, h2⟩ | ⟨h0, h1⟩
    · rw [h1] at hr; cases hr
      exact ⟨⟨h.1, .inr ⟨rfl, rfl⟩⟩, h2, h0, rfl⟩
    · rw [h1] at hr; cases hr
/-- an act of the walk -/
def actS (s : St) (x : Ac) : Int × St := if x.kind % 2 = 0 then putS s x.name x.data else delS s x.name
theorem act_cases (s : St) (x : Ac) {N : Nat} (hF : Fit N s) {A dn rf : Nat} (h : Stand A dn rf s) :
    Fit (N + 1) (actS s x).2 ∧ (((actS s x).1 = 0 ∧ Stand A (dn + 1) rf (actS s x).2) ∨ ((actS s x).1 = 53 ∧ dn = A ∧ rf = 0 ∧ (actS s x).2.seen = s.seen ∧ Stand A dn 1 (actS s x).2) ∨ ((actS s x).1 ≠ 0 ∧ (actS s x).1 ≠ 53 ∧ (actS s x).2.seen = s.seen ∧ Stand A dn rf (actS s x).2)) := by
  have key : ∀ (e : Int) (s' : St) (n : ByteArray) (c : Option ByteArray), Did s n c e s' → (e = 0 ∧ Stand A (dn + 1) rf s') ∨ (e = 53 ∧ dn = A ∧ rf = 0 ∧ s'.seen = s.seen ∧ Stand A dn 1 s') ∨ (e ≠ 0 ∧ e ≠ 53 ∧ s'.seen = s.seen ∧ Stand A dn rf s') := fun e s' n c hd => by
    have hd' := hd
    cases hd with
    | ok r hr => exact .inl ⟨rfl, h.ok hd' rfl⟩
    | no hr =>
      obtain ⟨h1, h2, h3, h4⟩ := h.no hd' rfl
      exact .inr (.inl ⟨rfl, h2, h3, h4, h1⟩)
  unfold actS
  split
  · refine ⟨put_fit hF _ _, ?_⟩
    rcases put_did s x.name x.data with ⟨h1, h2, h3⟩ | ⟨_, _, hd⟩
    · exact .inr (.inr ⟨h1, h2, by rw [h3], by rw [h3]; exact h⟩)
    · exact key _ _ _ _ hd
  · refine ⟨del_fit hF _, ?_⟩
    rcases del_did s x.name hF with ⟨h1, h2, h3⟩ | ⟨_, hd⟩
    · exact .inr (.inr ⟨h1, h2, by rw [h3], by rw [h3]; exact h⟩)
    · exact key _ _ _ _ hd
theorem acS_len (l : List Ac) : 20 * l.length ≤ acS l := by
  unfold acS
  induction l with
  | nil => simp
  | cons a r ih => simp only [List.map_cons, List.sum_cons, List.length_cons]; unfold acW at *; omega
theorem acW_le {l : List Ac} {x : Ac} (h : x ∈ l) : acW x ≤ acS l := by
  unfold acS
  induction l with
  | nil => cases h
  | cons a r ih =>
    simp only [List.map_cons, List.sum_cons]
    rcases List.mem_cons.1 h with rfl | h
    · omega
    · have := ih h; omega
theorem rem20 (n : Int) : ∃ A : Nat, wrap64 ((IntKind.u64.wrap n).tmod 20) = (A : Int) ∧ A < 20 := by
  have hz : 0 ≤ IntKind.u64.wrap n := by
    simp only [IntKind.wrap]
    exact Int.emod_nonneg _ (by decide)
  obtain ⟨z, hz'⟩ := Int.eq_ofNat_of_zero_le hz
  rw [hz']
  refine ⟨z % 20, ?_, Nat.mod_lt _ (by decide)⟩
  have e : (z : Int).tmod 20 = ((z % 20 : Nat) : Int) := by
    rw [Int.tmod_eq_emod_of_nonneg (by omega)]; rfl
  rw [e]
  have h20 := Nat.mod_lt z (show 0 < 20 by decide)
  generalize z % 20 = y at *
  unfold wrap64
  omega
theorem fit_ref (r : Option Nat) (hr : ∀ k, r = some k → k < 9223372036854775808) : Fit 0 { st0 with refuse := r } := by
  refine ⟨Nat.le_refl _, Nat.le_refl _, ?_, ?_, ?_, ?_, ?_, hr, ?_⟩
  · intro p hp; cases hp
  · intro p hp; cases hp
  · intro p hp; cases hp
  · intro p hp; cases hp
  · intro p hp; cases hp
  · intro k hk; cases hk
theorem st0_fit7 : Fit 0 st0 := fit_ref none fun k hk => by cases hk
theorem strike6 (A : Nat) : strikeS st0 6 (A : Int) 0 0 = (0, { st0 with refuse := some A }) := by
  have : badF 6 (A : Int) 0 0 = false := by
    unfold badF badN
    simp only [Bool.or_eq_false_iff, decide_eq_false_iff_not]
    omega
  unfold strikeS
  rw [this]
  rfl
set_option maxHeartbeats 4000000 in
set_option maxRecDepth 20000 in
theorem refused_walk {w : World} {v : Value} {l : List Ac} (h : Acts w v l) (n : Int) : Calls Try.prog 7 #[v, .int .i64 n] w fun e w' => e = .returned (.bool true) ∧ Below w.heap.size w w' := by
  obtain ⟨va, vc, hv⟩ : ∃ va vc, v = .slice va l.length vc := by
    rcases h.1 with ⟨A0, c0, rfl, rfl⟩ | ⟨g, o, cap, rfl, _⟩
    · exact ⟨_, _, rfl⟩
    · exact ⟨_, _, rfl⟩
  subst hv
  have HA := hid h
  clear h
  by_cases hbig : 20000 ≤ acS l
  · have HD := hid (decide_eq_true hbig)
    clear hbig
    generalize l.length = L at *
    go_enter Try.func7, Try.ntmps7
    go_wp2_with fail
    refine (works_true w).mono ?_
    rintro x w1 ⟨rfl, hb1⟩
    have H1 := hid hb1
    clear hb1
    go_wp2_with fail
    refine (large_any (HA.out.below H1.out)).mono ?_
    rintro x w2 ⟨rfl, hb2⟩
    rw [HD.out]
    have H2 := hid (H1.out.trans (hb2.mono H1.out.size))
    clear hb2 H1
    go_wp2_with fail
    refine (works_true w2).mono ?_
    rintro x w3 ⟨rfl, hb3⟩
    have H3 := hid (H2.out.trans (hb3.mono H2.out.size))
    clear hb3 H2
    go_wp2_with fail
    go_ret
    exact ⟨rfl, H3.out⟩
  · have HD := hid (decide_eq_false hbig)
    have HS := hid hbig
    obtain ⟨A, hA, hA2⟩ := rem20 n
    clear hbig
    go_enter Try.func7, Try.ntmps7
    go_wp2_with fail
    refine (works_true w).mono ?_
    rintro x w1 ⟨rfl, hb1⟩
    have H1 := hid hb1
    clear hb1
    go_wp2_with fail
    refine (large_any (HA.out.below H1.out)).mono ?_
    rintro x w2 ⟨rfl, hb2⟩
    rw [HD.out]
    have H2 := hid (H1.out.trans (hb2.mono H1.out.size))
    clear hb2 H1
    go_wp2_with fail
    refine (Env.new (Env.start w2)).mono ?_
    rintro x w3 ⟨b, rfl, hE⟩
    replace hE : Env w2 w3 [(b, st0)] [] := hE
    have HE := hid hE
    clear hE
    go_wp2_with fail
    rw [hA]
    refine (HE.out.strike 0 rfl st0_fit7 (by decide) 6 0 (A : Int) 0 0 (by omega)).mono ?_
    rintro x w4 ⟨rfl, hE⟩
    rw [strike6 A] at hE ⊢
    replace hE : Env w2 w4 [(b, { st0 with refuse := some A })] [] := hE
    clear HE hA
    have HE := hid hE
    clear hE
    go_wp2_with fail
    go_loopg [7, 8, 9] l.length (fun gk s7 s8 s9 wx => ∃ (k dn rf : Nat) (s : St), k + gk = l.length ∧ s9 = .int .i64 (k : Int) ∧ s7 = .int .i64 (dn : Int) ∧ s8 = .int .i64 (rf : Int) ∧ dn ≤ k ∧ Hid (Stand A dn rf s ∧ Fit k s) ∧ Env w2 wx [(b, s)] [])
    case atStart => exact ⟨0, 0, 0, { st0 with refuse := some A }, by omega, rfl, rfl, rfl, by omega, hid ⟨⟨rfl, .inl ⟨rfl, A, rfl, by omega⟩⟩, fit_ref (some A) fun k hk => by cases hk; omega⟩, HE.out⟩
    case round =>
      obtain ⟨k, dn, rf, s, hk, rfl, rfl, rfl, hdn, HI, hE⟩ := hrel
      have HX := hid hE
      clear hE HE
      cases gk with
      | zero =>
        have q1 : ¬ ((k : Int) < (l.length : Int)) := by omega
        rcases HI.out.1 with ⟨hd, ⟨rfl, m, hm, hmA⟩ | ⟨rfl, hm⟩⟩
        · have HQ := hid (show (!s.down && s.refuse.isNone) = false from by rw [hd, hm]; rfl)
          have q2 : (dn : Int) ≤ (A : Int) := by omega
          clear hd hm hmA
          go_wp2_with fail
          refine (HX.out.sound 0 rfl).mono ?_
          rintro x w5 ⟨rfl, hE⟩
          rw [HQ.out]
          have H5 := hid (H2.out.trans (hE.base.mono H2.out.size))
          clear hE
          go_wp2_with fail
          go_ret
          exact ⟨rfl, H5.out⟩
        · have HQ := hid (show (!s.down && s.refuse.isNone) = true from by rw [hd, hm]; rfl)
          clear hd hm
          go_wp2_with fail
          refine (HX.out.sound 0 rfl).mono ?_
          rintro x w5 ⟨rfl, hE⟩
          rw [HQ.out]
          have H5 := hid (H2.out.trans (hE.base.mono H2.out.size))
          clear hE
          go_wp2_with fail
          go_ret
          exact ⟨rfl, H5.out⟩
      | succ g1 =>
        have q1 : (k : Int) < (l.length : Int) := by omega
        have hk1 : k < l.length := by omega
        obtain ⟨x, hx⟩ : ∃ x, l[k]? = some x := ⟨_, List.getElem?_eq_getElem hk1⟩
        have hok := HA.out.2 x (List.mem_of_getElem? hx)
        rcases HA.out.1 with ⟨_, _, _, hl0⟩ | ⟨g, o, cap, ev, hl, hg, hc⟩
        · rw [hl0] at hk1; simp at hk1
        cases ev
        have HC := hid (show ∀ W, Below w.heap.size w W → W.cell? ⟨g, o + k * 9, none⟩ = some (.int .u8 (x.kind : Int)) ∧ W.cell? ⟨g, o + k * 9 + 1, none⟩ = some (.string x.name) ∧ W.cell? ⟨g, o + k * 9 + 2, none⟩ = some (.string x.data) from fun W hW =>
          ⟨by rw [hW.cell (p := ⟨g, o + k * 9, none⟩) hg]; exact hc k x hx 0 _ rfl, by rw [hW.cell (p := ⟨g, o + k * 9 + 1, none⟩) hg]; exact hc k x hx 1 _ rfl, by rw [hW.cell (p := ⟨g, o + k * 9 + 2, none⟩) hg]; exact hc k x hx 2 _ rfl⟩)
        have hW := acW_le (List.mem_of_getElem? hx)
        have hlen := acS_len l
        have hsm := HS.out
        have hs1 : k ≤ 1000 := by omega
        have HN := hid (show x.name.size ≤ 1000000 from by unfold acW at hW; omega)
        have hcs := act_cases s x HI.out.2 HI.out.1
        have hkd := hok.kind
        clear hc hx hok hW hlen hsm hk1
        have HCS := hid hcs
        clear hcs
        go_wp2_with fail
        refine (HX.out.objects 0 rfl (Nat.le_trans HI.out.2.seen (by omega))).mono ?_
        rintro x5 w5 ⟨ov, rfl, hE⟩
        obtain ⟨c0, c1, c2⟩ := HC.out w5 (H2.out.trans (hE.base.mono H2.out.size))
        have HE := hid hE
        clear hE
        by_cases hev : x.kind % 2 = 0
        · have q2 : ((x.kind : Int).tmod 2 == 0) = true := by
            rw [Int.tmod_eq_emod_of_nonneg (by omega)]; simp; omega
          go_wp2_with fail
          refine (HE.out.put 0 rfl HI.out.2 (by omega) x.name x.data).mono ?_
          have HT := hid (show putS s x.name x.data = actS s x from by unfold actS; rw [if_pos hev])
          clear hev q2
          rintro x6 w6 ⟨rfl, hE⟩
          rw [HT.out] at hE ⊢
          replace hE : Env w2 w6 [(b, (actS s x).2)] [(ov, s.seen)] := hE
          clear c0 c1 c2 HT
          obtain ⟨hF', hcs⟩ := HCS.out
          clear HCS HC
          have HF := hid hF'
          clear hF'
          generalize (actS s x).2 = s' at *
          generalize (actS s x).1 = e at *
          have HX' := hid hE
          clear hE HE HX
          rcases hcs with ⟨rfl, hst⟩ | ⟨rfl, rfl, rfl, hse, hst⟩ | ⟨h0, h53, hse, hst⟩
          · have HST := hid hst
            clear hst
            go_wp2_with fail
            go_roundg g1
            case measure => omega
            case rel => exact ⟨k + 1, dn + 1, rf, s', by omega, by first | rfl | simp, by first | rfl | simp, rfl, by omega, hid ⟨HST.out, HF.out⟩, HX'.out.less (fun r hr => by cases hr)⟩
          · have HST := hid hst
            have HSE := hid hse
            clear hst hse
            go_wp2_with fail
            refine (HX'.out.objects 0 rfl (Nat.le_trans HF.out.seen (by omega))).mono ?_
            rintro x7 w7 ⟨ov2, rfl, hE⟩
            have HE := hid hE
            clear hE
            go_wp2_with fail
            refine (HE.out.sameObj (r1 := (ov2, s'.seen)) (r2 := (ov, s.seen)) (by simp) (by simp)).mono ?_
            rintro x8 w8 ⟨rfl, hE⟩
            rw [show decide ((ov2, s'.seen).2 = (ov, s.seen).2) = true from decide_eq_true HSE.out]
            have HE2 := hid hE
            clear hE HE
            go_wp2_with fail
            go_roundg g1
            case measure => omega
            case rel => exact ⟨k + 1, dn, 1, s', by omega, by first | rfl | simp, rfl, by first | rfl | simp, by omega, hid ⟨HST.out, HF.out⟩, HE2.out.less (fun r hr => by cases hr)⟩
          · have HST := hid hst
            have HSE := hid hse
            have p0 : (e == 0) = false := beq_eq_false_iff_ne.2 h0
            have p1 : (e == 53) = false := beq_eq_false_iff_ne.2 h53
            clear hst hse h0 h53
            go_wp2_with fail
            refine (HX'.out.objects 0 rfl (Nat.le_trans HF.out.seen (by omega))).mono ?_
            rintro x7 w7 ⟨ov2, rfl, hE⟩
            have HE := hid hE
            clear hE
            go_wp2_with fail
            refine (HE.out.sameObj (r1 := (ov2, s'.seen)) (r2 := (ov, s.seen)) (by simp) (by simp)).mono ?_
            rintro x8 w8 ⟨rfl, hE⟩
            rw [show decide ((ov2, s'.seen).2 = (ov, s.seen).2) = true from decide_eq_true HSE.out]
            have HE2 := hid hE
            clear hE HE
            go_wp2_with fail
            go_roundg g1
            case measure => omega
            case rel => exact ⟨k + 1, dn, rf, s', by omega, by first | rfl | simp, rfl, rfl, by omega, hid ⟨HST.out, HF.out⟩, HE2.out.less (fun r hr => by cases hr)⟩
        · have q2 : ((x.kind : Int).tmod 2 == 0) = false := by
            rw [Int.tmod_eq_emod_of_nonneg (by omega)]
            exact beq_eq_false_iff_ne.2 (by omega)
          go_wp2_with fail
          refine (HE.out.del 0 rfl HI.out.2 (by omega) x.name HN.out).mono ?_
          have HT := hid (show delS s x.name = actS s x from by unfold actS; rw [if_neg hev])
          clear hev q2
          rintro x6 w6 ⟨rfl, hE⟩
          rw [HT.out] at hE ⊢
          replace hE : Env w2 w6 [(b, (actS s x).2)] [(ov, s.seen)] := hE
          clear c0 c1 c2 HT
          obtain ⟨hF', hcs⟩ := HCS.out
          clear HCS HC
          have HF := hid hF'
          clear hF'
          generalize (actS s x).2 = s' at *
          generalize (actS s x).1 = e at *
          have HX' := hid hE
          clear hE HE HX
          rcases hcs with ⟨rfl, hst⟩ | ⟨rfl, rfl, rfl, hse, hst⟩ | ⟨h0, h53, hse, hst⟩
          · have HST := hid hst
            clear hst
            go_wp2_with fail
            go_roundg g1
            case measure => omega
            case rel => exact ⟨k + 1, dn + 1, rf, s', by omega, by first | rfl | simp, by first | rfl | simp, rfl, by omega, hid ⟨HST.out, HF.out⟩, HX'.out.less (fun r hr => by cases hr)⟩
          · have HST := hid hst
            have HSE := hid hse
            clear hst hse
            go_wp2_with fail
            refine (HX'.out.objects 0 rfl (Nat.le_trans HF.out.seen (by omega))).mono ?_
            rintro x7 w7 ⟨ov2, rfl, hE⟩
            have HE := hid hE
            clear hE
            go_wp2_with fail
            refine (HE.out.sameObj (r1 := (ov2, s'.seen)) (r2 := (ov, s.seen)) (by simp) (by simp)).mono ?_
            rintro x8 w8 ⟨rfl, hE⟩
            rw [show decide ((ov2, s'.seen).2 = (ov, s.seen).2) = true from decide_eq_true HSE.out]
            have HE2 := hid hE
            clear hE HE
            go_wp2_with fail
            go_roundg g1
            case measure => omega
            case rel => exact ⟨k + 1, dn, 1, s', by omega, by first | rfl | simp, rfl, by first | rfl | simp, by omega, hid ⟨HST.out, HF.out⟩, HE2.out.less (fun r hr => by cases hr)⟩
          · have HST := hid hst
            have HSE := hid hse
            have p0 : (e == 0) = false := beq_eq_false_iff_ne.2 h0
            have p1 : (e == 53) = false := beq_eq_false_iff_ne.2 h53
            clear hst hse h0 h53
            go_wp2_with fail
            refine (HX'.out.objects 0 rfl (Nat.le_trans HF.out.seen (by omega))).mono ?_
            rintro x7 w7 ⟨ov2, rfl, hE⟩
            have HE := hid hE
            clear hE
            go_wp2_with fail
            refine (HE.out.sameObj (r1 := (ov2, s'.seen)) (r2 := (ov, s.seen)) (by simp) (by simp)).mono ?_
            rintro x8 w8 ⟨rfl, hE⟩
            rw [show decide ((ov2, s'.seen).2 = (ov, s.seen).2) = true from decide_eq_true HSE.out]
            have HE2 := hid hE
            clear hE HE
            go_wp2_with fail
            go_roundg g1
            case measure => omega
            case rel => exact ⟨k + 1, dn, rf, s', by omega, by first | rfl | simp, rfl, rfl, by omega, hid ⟨HST.out, HF.out⟩, HE2.out.less (fun r hr => by cases hr)⟩
end Go.Proofs.Ytpeeelnkelnlkaa
