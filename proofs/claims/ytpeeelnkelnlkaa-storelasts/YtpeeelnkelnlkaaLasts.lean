/- StoreLasts, walked. -/
import Derived.Test.YtpeeelnkelnlkaaLasts0
namespace Go.Proofs.Ytpeeelnkelnlkaa
open Go.RowKit Go.Maps
theorem makes_ints (n : Nat) (hn : n ≤ 1000000) (w : World) : (Instr.makeSlice 39 (.int .i64 (n : Int)) (.int .i64 (n : Int))).run Try.prog w = .ok (.slice (some ⟨w.heap.size, 0, none⟩) n n) (w.alloc (.cells ((List.replicate n (0 : Int)).map (Value.int .i64)).toArray 3)) := by
  have hinfo : (Try.prog.info? 3).map (fun i => (i.zero, i.size, i.bytes)) = some (some (.int .i64 0), 1, 8) := by kernel_rfl
  cases hi : Try.prog.info? 3 with
  | none => rw [hi] at hinfo; simp at hinfo
  | some i =>
    rw [hi] at hinfo
    simp only [Option.map_some, Option.some.injEq, Prod.mk.injEq] at hinfo
    obtain ⟨h1, h2, h3⟩ := hinfo
    rw [run_make w 39 3 i (.int .i64 0) Try.underlying39 hi h1 .i64 .i64 (n : Int) (n : Int) (by omega) (Int.le_refl _) (by rw [h3]; omega) (by omega)]
    have e : madeCells (Value.int .i64 0).cells (n * 1) = ((List.replicate n (0 : Int)).map (Value.int .i64)).toArray := by
      apply Array.toList_inj.1
      have hz : (Value.int .i64 0).cells = #[.int .i64 0] := rfl
      rw [hz, Nat.mul_one]
      apply List.ext_getElem
      · simp [madeCells]
      · intro k h1 h2
        simp [madeCells, Nat.mod_one]
    rw [h2, Int.toNat_natCast, e]
section
variable {ev : Operand → Value} {o : Oper} {w : World} {x y : Operand}
theorem rn_neq9 {u v : ByteArray} (ho : o.op = .binOp .neq 9 x y 9) (hx : ev x = .string u) (hy : ev y = .string v) : (execOp ev o).run Try.prog w = .ok (.value (.bool (!decide (u = v)))) w := by
  have h := str_eq u v
  simp [execOp, ho, hx, hy, go_sem, h]
theorem rn_not {b : Bool} (ho : o.op = .unOp .not 4 x) (hx : ev x = .bool b) : (execOp ev o).run Try.prog w = .ok (.value (.bool (!b))) w := by
  simp [execOp, ho, hx, go_sem]
end
/-- none of that name -/
def noneB (C : List Ob) (p : Ob) : Bool := !C.any fun q => decide (q.1 = p.1)
theorem noneB_succ {C : List Ob} {p q : Ob} {k : Nat} (h : C[k]? = some q) : noneB (C.take (k + 1)) p = (noneB (C.take k) p && !decide (q.1 = p.1)) := by
  unfold noneB
  rw [List.take_add_one, h]
  simp [List.any_append]
theorem noneB_no {C : List Ob} {p : Ob} (h : noneB C p = true) : ∀ q ∈ C, q.1 ≠ p.1 := fun q hq e => by
  unfold noneB at h
  simp at h
  exact h q.1 q.2 hq e
def lsT (v17 v10 : Value) (gn go k i : Nat) (q p : Ob) (j : Nat) (v : Value) (_ : World) : Prop := match j with
  | 171 => v = .bool true
  | 172 => v = .bool true
  | 173 => v = v17
  | 174 => v = .int .i64 (k : Int)
  | 175 => v = .pointer (some ⟨gn, k * 2, none⟩)
  | 176 => v = .pointer (some ⟨gn, k * 2, none⟩)
  | 177 => v = .string q.1
  | 178 => v = v10
  | 179 => v = .int .i64 (i : Int)
  | 180 => v = .pointer (some ⟨go, i * 2, none⟩)
  | 181 => v = .pointer (some ⟨go, i * 2, none⟩)
  | 182 => v = .string p.1
  | 183 => v = .bool (!decide (q.1 = p.1))
  | 184 => v = .bool (!decide (q.1 = p.1))
  | _ => True
def lsN  (j : Nat) (v : Value) (_ : World) : Prop := match j with
  | 171 => v = .bool false
  | 172 => v = .bool false
  | 184 => v = .bool false
  | _ => True
def lgT (v1 v10 : Value) (g o go k i : Nat) (x : Ac) (p : Ob) (j : Nat) (v : Value) (_ : World) : Prop := match j with
  | 194 => v = v1
  | 195 => v = .int .i64 (k : Int)
  | 196 => v = .pointer (some ⟨g, o + k * 9, none⟩)
  | 197 => v = .pointer (some ⟨g, o + k * 9, none⟩)
  | 198 => v = .int .u8 (x.kind : Int)
  | 199 => v = .int .u8 ((x.kind % 2 : Nat) : Int)
  | 200 => v = .bool true
  | 201 => v = .bool true
  | 202 => v = v1
  | 203 => v = .int .i64 (k : Int)
  | 204 => v = .pointer (some ⟨g, o + k * 9, none⟩)
  | 205 => v = .pointer (some ⟨g, o + k * 9 + 1, none⟩)
  | 206 => v = .pointer (some ⟨g, o + k * 9 + 1, none⟩)
  | 207 => v = .string x.name
  | 208 => v = v10
  | 209 => v = .int .i64 (i : Int)
  | 210 => v = .pointer (some ⟨go, i * 2, none⟩)
  | 211 => v = .pointer (some ⟨go, i * 2, none⟩)
  | 212 => v = .string p.1
  | 213 => v = .bool (decide (x.name = p.1))
  | 214 => v = .bool (decide (x.name = p.1))
  | 215 => v = .bool (!decide (x.name = p.1))
  | _ => True
def lgN (v1 : Value) (g o k : Nat) (x : Ac) (j : Nat) (v : Value) (_ : World) : Prop := match j with
  | 194 => v = v1
  | 195 => v = .int .i64 (k : Int)
  | 196 => v = .pointer (some ⟨g, o + k * 9, none⟩)
  | 197 => v = .pointer (some ⟨g, o + k * 9, none⟩)
  | 198 => v = .int .u8 (x.kind : Int)
  | 199 => v = .int .u8 ((x.kind % 2 : Nat) : Int)
  | 200 => v = .bool false
  | 201 => v = .bool false
  | 214 => v = .bool false
  | 215 => v = .bool true
  | _ => True
theorem act_wl {N : Nat} {s : St} (hF : Fit N s) (x : Ac) : (actS s x).2.writes.length ≤ s.writes.length + 1 := by
  have key : ∀ (n : ByteArray) (c : Option ByteArray) (e : Int) (s' : St), Did s n c e s' → s'.writes.length ≤ s.writes.length + 1 := fun n c e s' hd => by
    cases hd with
    | no h => exact Nat.le_succ _
    | ok r h => simp
  unfold actS
  split
  · rcases put_did s x.name x.data with ⟨_, _, h⟩ | ⟨_, _, h⟩
    · rw [h]; exact Nat.le_succ _
    · exact key _ _ _ _ h
  · rcases del_did s x.name hF with ⟨_, _, h⟩ | ⟨_, h⟩
    · rw [h]; exact Nat.le_succ _
    · exact key _ _ _ _ h
def evC (k L : Nat) : List Int := List.replicate k 65536 ++ List.replicate (L - k) 0
theorem evC_len {k L : Nat} (h : k ≤ L) : (evC k L).length = L := by simp [evC]; omega
theorem evC_set {k L : Nat} (h : k < L) : (evC k L).set k 65536 = evC (k + 1) L := by
  unfold evC
  rw [List.set_append_right _ _ (by simp), List.length_replicate, Nat.sub_self, show L - k = (L - (k + 1)) + 1 by omega, List.replicate_succ, List.set_cons_zero, List.replicate_succ', List.append_assoc]
  rfl
theorem evC_get {k L : Nat} (h : k < L) : (evC k L)[k]? = some 0 := by
  unfold evC
  rw [List.getElem?_append_right (by simp), List.length_replicate, Nat.sub_self, List.getElem?_replicate, if_pos (by omega)]
theorem evC_all {L i : Nat} (h : i < L) : (evC L L)[i]? = some 65536 := by
  unfold evC
  rw [Nat.sub_self, List.replicate_zero, List.append_nil, List.getElem?_replicate, if_pos h]
def evA (k L : Nat) : Array Value := ((evC k L).map (Value.int .i64)).toArray
theorem Has.ev {w : World} {g k L : Nat} (h : Has w g (evA k L) 3) (hk : k < L) : w.cell? ⟨g, k, none⟩ = some (.int .i64 0) ∧ w.frozen? ⟨g, k, none⟩ = false ∧ Has (w.setCell ⟨g, k, none⟩ (.int .i64 65536)) g (evA (k + 1) L) 3 := by
  have h1 := h.range k (.int .i64 0) (by show ((evC k L).map (Value.int .i64)).toArray.toList[k]? = _; rw [List.toList_toArray, List.getElem?_map, evC_get hk]; rfl)
  refine ⟨by simpa using h1, h.frozen k, ?_⟩
  have h2 := h.set k (.int .i64 65536)
  have e : (evA k L).setIfInBounds k (.int .i64 65536) = evA (k + 1) L := by
    unfold evA
    rw [List.setIfInBounds_toArray, ← evC_set hk, List.map_set]
  rwa [e] at h2
set_option maxHeartbeats 8000000 in
set_option maxRecDepth 20000 in
theorem lasts_walk {w : World} {v0 v1 v2 : Value} {M : List Ob} {l : List Ac} {ks : List Int} (hM : Obs w v0 M) (hl : Acts w v1 l) (hk : RdI w v2 ks) (hkl : ks.length ≤ 9223372036854775807) : Calls Try.prog 6 #[v0, v1, v2] w fun e w' => e = .returned (.bool true) ∧ Below w.heap.size w w' := by
  obtain ⟨a0, c0, rfl⟩ := hM.form
  obtain ⟨a1, c1, hv⟩ : ∃ va vc, v1 = .slice va l.length vc := by
    rcases hl.1 with ⟨A0, c0, rfl, rfl⟩ | ⟨g, o, cap, rfl, _⟩
    · exact ⟨_, _, rfl⟩
    · exact ⟨_, _, rfl⟩
  subst hv
  obtain ⟨a2, c2, hv⟩ := hk.form
  subst hv
  have HM := hid hM
  have HL := hid hl
  have HK := hid hk
  clear hM hl hk
  by_cases hbig : 20000 ≤ acS l ∨ 60 < M.length ∨ 2000 < ks.length
  · by_cases h1 : 20000 ≤ acS l
    · have HD := hid (decide_eq_true h1)
      clear h1 hbig
      generalize l.length = Ln at *
      generalize M.length = Mn at *
      generalize ks.length = kn at *
      go_enter Try.func6, Try.ntmps6
      go_wp2_with fail
      refine (works_true w).mono ?_
      rintro x w1 ⟨rfl, hb1⟩
      have H1 := hid hb1
      clear hb1
      go_wp2_with fail
      refine (large_any (HL.out.below H1.out)).mono ?_
      rintro x w2 ⟨rfl, hb2⟩
      rw [HD.out]
      have H2 := hid (H1.out.trans (hb2.mono H1.out.size))
      clear hb2 H1
      go_wp2_with fail
      refine (works_true w2).mono ?_
      rintro x w3 ⟨rfl, hb3⟩
      have H3 := hid (H2.out.trans (hb3.mono H2.out.size))
      clear hb3 H2
      go_wp2_with fail
      go_ret
      exact ⟨rfl, H3.out⟩
    · have HD := hid (decide_eq_false h1)
      by_cases h2 : 60 < M.length
      · have p2 : (60 : Int) < (M.length : Int) := by omega
        clear h1 h2 hbig
        generalize l.length = Ln at *
        generalize M.length = Mn at *
        generalize ks.length = kn at *
        go_enter Try.func6, Try.ntmps6
        go_wp2_with fail
        refine (works_true w).mono ?_
        rintro x w1 ⟨rfl, hb1⟩
        have H1 := hid hb1
        clear hb1
        go_wp2_with fail
        refine (large_any (HL.out.below H1.out)).mono ?_
        rintro x w2 ⟨rfl, hb2⟩
        rw [HD.out]
        have H2 := hid (H1.out.trans (hb2.mono H1.out.size))
        clear hb2 H1
        go_wp2_with fail
        refine (works_true w2).mono ?_
        rintro x w3 ⟨rfl, hb3⟩
        have H3 := hid (H2.out.trans (hb3.mono H2.out.size))
        clear hb3 H2
        go_wp2_with fail
        go_ret
        exact ⟨rfl, H3.out⟩
      · have p2 : ¬ (60 : Int) < (M.length : Int) := by omega
        have p3 : (2000 : Int) < (ks.length : Int) := by
          rcases hbig with h | h | h
          · exact absurd h h1
          · exact absurd h h2
          · omega
        clear h1 h2 hbig
        generalize l.length = Ln at *
        generalize M.length = Mn at *
        generalize ks.length = kn at *
        go_enter Try.func6, Try.ntmps6
        go_wp2_with fail
        refine (works_true w).mono ?_
        rintro x w1 ⟨rfl, hb1⟩
        have H1 := hid hb1
        clear hb1
        go_wp2_with fail
        refine (large_any (HL.out.below H1.out)).mono ?_
        rintro x w2 ⟨rfl, hb2⟩
        rw [HD.out]
        have H2 := hid (H1.out.trans (hb2.mono H1.out.size))
        clear hb2 H1
        go_wp2_with fail
        refine (works_true w2).mono ?_
        rintro x w3 ⟨rfl, hb3⟩
        have H3 := hid (H2.out.trans (hb3.mono H2.out.size))
        clear hb3 H2
        go_wp2_with fail
        go_ret
        exact ⟨rfl, H3.out⟩
  · have hs1 : ¬ 20000 ≤ acS l := fun h => hbig (.inl h)
    have hs2 : ¬ 60 < M.length := fun h => hbig (.inr (.inl h))
    have hs3 : ¬ 2000 < ks.length := fun h => hbig (.inr (.inr h))
    have HD := hid (decide_eq_false hs1)
    have HS := hid hs1
    have p2 : ¬ (60 : Int) < (M.length : Int) := by omega
    have p3 : ¬ (2000 : Int) < (ks.length : Int) := by omega
    clear hbig hs1
    go_enter Try.func6, Try.ntmps6
    go_wp2_with fail
    refine (works_true w).mono ?_
    rintro x w1 ⟨rfl, hb1⟩
    have H1 := hid hb1
    clear hb1
    go_wp2_with fail
    refine (large_any (HL.out.below H1.out)).mono ?_
    rintro x w2 ⟨rfl, hb2⟩
    rw [HD.out]
    have H2 := hid (H1.out.trans (hb2.mono H1.out.size))
    clear hb2 H1
    go_wp2_with fail
    refine (Env.new (Env.start w2)).mono ?_
    rintro x w3 ⟨b, rfl, hE⟩
    replace hE : Env w2 w3 [(b, st0)] [] := hE
    have HE := hid hE
    clear hE p2 p3
    go_wp2_with fail
    go_loopg [8, 9] M.length (fun gk s8 s9 wx => ∃ (k N : Nat) (s : St) (lf : List Ac), k + gk = M.length ∧ s9 = .int .i64 (k : Int) ∧ s8 = .int .i64 (N : Int) ∧ N ≤ k * 140737488355328 ∧ Hid (Behind [] lf s ∧ Fit k s) ∧ Env w2 wx [(b, s)] [])
    case atStart => exact ⟨0, 0, st0, [], by omega, rfl, rfl, by omega, hid ⟨Behind.start, fit_ref none fun k hk => by cases hk⟩, HE.out⟩
    case round =>
      obtain ⟨k, N, s, lf, hk, rfl, rfl, hN, HI, hE⟩ := hrel
      have HX := hid hE
      clear hE HE
      cases gk with
      | zero =>
        have q1 : ¬ ((k : Int) < (M.length : Int)) := by omega
        clear hN
        go_wp2_with fail
        refine (HX.out.sync 0 rfl).mono ?_
        rintro x w4 ⟨rfl, hE⟩
        rw [HI.out.1.syncs] at hE ⊢
        replace hE : Env w2 w4 [(b, { s with writes := [] })] [] := hE
        obtain ⟨A, hAe⟩ : ∃ A, s.seen = A := ⟨_, rfl⟩
        have HB0 := hid (show Behind A l { s with writes := [] } ∧ Fit 60 { s with writes := [] } from by
          rw [← hAe]; exact ⟨HI.out.1.sync.more (fun x hx => by cases hx), HI.out.2.sync.more (by omega)⟩)
        have HA := hid (show Rising A ∧ A.length ≤ 60 ∧ ∀ p ∈ A, p.1.size ≤ 80 ∧ p.2.size ≤ 65536 from by
          rw [← hAe]; exact ⟨HX.out.rising 0 rfl, Nat.le_trans HI.out.2.seen (by omega), fun p hp => ⟨HI.out.2.names p hp, HI.out.2.datas p hp⟩⟩)
        have hse : ({ s with writes := [] } : St).seen = A := hAe
        have HWN := hid (show ({ s with writes := [] } : St).writes = [] from rfl)
        generalize ({ s with writes := [] } : St) = s0 at *
        have HE := hid hE
        have HSE := hid hse
        clear hE hAe hse HI HX hk
        go_wp2_with fail
        refine (HE.out.objects 0 rfl (Nat.le_trans HB0.out.2.seen (by decide))).mono ?_
        rintro x w5 ⟨ov, rfl, hE⟩
        rw [HSE.out] at hE
        have HE5 := hid hE
        clear hE HE HSE
        go_wp2_with fail
        go_loopg [11] l.length (fun gk s11 wx => ∃ (k : Nat) (s : St), k + gk = l.length ∧ s11 = .int .i64 (k : Int) ∧ Hid (Behind A l s ∧ Fit (60 + k) s ∧ s.writes.length ≤ k) ∧ Env w2 wx [(b, s)] [(ov, A)])
        case atStart => exact ⟨0, s0, by omega, rfl, hid ⟨HB0.out.1, HB0.out.2, by rw [HWN.out]; exact Nat.le_refl _⟩, HE5.out⟩
        case round =>
          clear HB0 HE5
          obtain ⟨k, s, hk, rfl, HI, hE⟩ := hrel
          have HX := hid hE
          clear hE
          have hlen : l.length ≤ 1000 := by have := acS_len l; have := HS.out; omega
          cases gk with
          | zero =>
            have q1 : ¬ ((k : Int) < (l.length : Int)) := by omega
            have HWL := hid (show s.writes.length ≤ l.length from Nat.le_trans HI.out.2.2 (by omega))
            have HI' := hid (show Behind A l s ∧ Fit 1060 s from ⟨HI.out.1, HI.out.2.1.more (by omega)⟩)
            clear HI hk
            go_wp2_with fail
            refine (HX.out.objects 0 rfl (Nat.le_trans HI'.out.2.seen (by decide))).mono ?_
            rintro x w6 ⟨ov2, rfl, hE⟩
            have HE6 := hid hE
            clear hE HX
            go_wp2_with fail
            refine (HE6.out.copy 0 rfl (Nat.le_trans HI'.out.2.writes (by decide))).mono ?_
            rintro x w7 ⟨b2, rfl, hE⟩
            replace hE : Env w2 w7 [(b, s), (b2, s)] [(ov2, s.seen), (ov, A)] := hE
            have HE7 := hid hE
            clear hE HE6
            go_wp2_with fail
            refine (HE7.out.copy 0 rfl (Nat.le_trans HI'.out.2.writes (by decide))).mono ?_
            rintro x w8 ⟨b3, rfl, hE⟩
            replace hE : Env w2 w8 [(b, s), (b2, s), (b3, s)] [(ov2, s.seen), (ov, A)] := hE
            have HE8 := hid hE
            clear hE HE7
            have hmk := makes_ints l.length (by omega) w8
            go_wp2_with fail
            have HV0 := hid (show Has (w8.alloc (.cells ((List.replicate l.length (0 : Int)).map (Value.int .i64)).toArray 3)) w8.heap.size (evA 0 l.length) 3 from Has.new _ _ _ _ rfl)
            have HV1 := hid (boxed w8 (.cells ((List.replicate l.length (0 : Int)).map (Value.int .i64)).toArray 3))
            have erep : ((List.replicate l.length (0 : Int)).map (Value.int .i64)).toArray = Array.replicate l.length (.int .i64 0) := by simp
            rw [erep] at HV0 HV1
            clear hmk erep
            go_loopg [16] l.length (fun gk s16 wx => ∃ k : Nat, k + gk = l.length ∧ s16 = .int .i64 (k : Int) ∧ Has wx w8.heap.size (evA k l.length) 3 ∧ Below w8.heap.size w8 wx)
            case atStart => exact ⟨0, by omega, rfl, HV0.out, HV1.out⟩
            case round =>
              clear HV0 HV1
              obtain ⟨k, hk, rfl, hev, hbw⟩ := hrel
              cases gk with
              | zero =>
                have q1 : ¬ ((k : Int) < (l.length : Int)) := by omega
                obtain rfl : k = l.length := by omega
                have HEV := hid (HE8.out.box hbw hev)
                clear HE8 hev hbw hk
                have HLV := hid HI'.out.1.lives
                have HC0 := hid (HI'.out.1.none HA.out.1)
                have HC1 := hid (HI'.out.1.all HA.out.1 HI'.out.2 (ks := evC l.length l.length) (fun i hi => evC_all (by
                  have h1 : s.writes.length ≤ l.length := HWL.out
                  omega)))
                have HFK := hid (crash_fit HI'.out.2 ks HI'.out.1 HA.out.1 (Nat.le_trans HA.out.2.1 (by decide)) HA.out.2.2)
                go_wp2_with fail
                refine (HEV.out.crash0 1 rfl HI'.out.2 (by decide) HLV.out).mono ?_
                rintro x w9 ⟨rfl, hE⟩
                replace hE : EnvB w2 w9 [(b, s), (b2, crashS s []), (b3, s)] [(ov2, s.seen), (ov, A)] w8.heap.size (((evC l.length l.length).map (Value.int .i64)).toArray) 3 := hE
                have HE9 := hid hE
                clear hE HEV
                go_wp2_with fail
                have hcr := HE9.out.crash 2 rfl HI'.out.2 (by decide) HLV.out (by rw [evC_len (Nat.le_refl _)]; omega) l.length
                rw [evC_len (Nat.le_refl _)] at hcr
                refine hcr.mono ?_
                clear hcr HE9
                rintro x w10 ⟨rfl, hE⟩
                replace hE : Env w2 w10 [(b, s), (b2, crashS s []), (b3, crashS s (evC l.length l.length))] [(ov2, s.seen), (ov, A)] := hE
                have HE10 := hid hE
                clear hE
                go_wp2_with fail
                refine (HE10.out.crash 0 rfl HI'.out.2 (by decide) HLV.out (HK.out.below H2.out) hkl).mono ?_
                rintro x w11 ⟨rfl, hE⟩
                replace hE : Env w2 w11 [(b, crashS s ks), (b2, crashS s []), (b3, crashS s (evC l.length l.length))] [(ov2, s.seen), (ov, A)] := hE
                have HE11 := hid hE
                clear hE HE10
                go_wp2_with fail
                refine (HE11.out.objects 1 rfl (by rw [HC0.out]; exact Nat.le_trans HA.out.2.1 (by decide))).mono ?_
                rintro x w12 ⟨ovn, rfl, hE⟩
                rw [HC0.out] at hE
                have HE12 := hid hE
                clear hE HE11
                go_wp2_with fail
                refine (HE12.out.sameObj (r1 := (ovn, A)) (r2 := (ov, A)) (by simp) (by simp)).mono ?_
                rintro x w13 ⟨rfl, hE⟩
                rw [show decide ((ovn, A).2 = (ov, A).2) = true from decide_eq_true rfl]
                have HE13 := hid hE
                clear hE HE12
                go_wp2_with fail
                refine (HE13.out.objects 2 rfl (by rw [HC1.out]; exact Nat.le_trans HI'.out.2.seen (by decide))).mono ?_
                rintro x w14 ⟨ova, rfl, hE⟩
                rw [HC1.out] at hE
                have HE14 := hid hE
                clear hE HE13
                go_wp2_with fail
                refine (HE14.out.sameObj (r1 := (ova, s.seen)) (r2 := (ov2, s.seen)) (by simp) (by simp)).mono ?_
                rintro x w15 ⟨rfl, hE⟩
                rw [show decide ((ova, s.seen).2 = (ov2, s.seen).2) = true from decide_eq_true rfl]
                have HE15 := hid hE
                clear hE HE14
                go_wp2_with fail
                refine (HE15.out.objects 0 rfl (Nat.le_trans HFK.out.seen (by decide))).mono ?_
                rintro x w16 ⟨now, rfl, hE⟩
                have HE16 := hid (show Env w2 w16 [(b, crashS s ks), (b2, crashS s []), (b3, crashS s (evC l.length l.length))] [(now, (crashS s ks).seen), (ov, A)] from hE.less (fun r hr => by
                  rcases List.mem_cons.1 hr with rfl | hr
                  · exact List.mem_cons_self
                  · rw [List.mem_singleton] at hr; subst hr; simp))
                clear hE HE15
                obtain ⟨an, cn, e⟩ := row_slice (HE16.out.rowOf (r := (now, (crashS s ks).seen)) (by simp))
                have e' : now = .slice an (crashS s ks).seen.length cn := e
                subst e'
                obtain ⟨ao, co, e2⟩ := row_slice (HE16.out.rowOf (r := (ov, A)) (by simp))
                have e2' : ov = .slice ao A.length co := e2
                subst e2'
                have HFR := hid (show ∀ p ∈ (crashS s ks).seen, fromB p A l = true from fun p hp => HI'.out.1.from HA.out.1 ks hp)
                have HGN := hid (show ∀ p ∈ A, (∃ q ∈ (crashS s ks).seen, q.1 = p.1) ∨ ∃ x ∈ l, x.kind % 2 = 1 ∧ x.name = p.1 from fun p hp => HI'.out.1.gone HA.out.1 ks hp)
                have HAG := hid (show crashS (crashS s ks) ks = crashS s ks from rfl)
                have HWK := hid (show (crashS s ks).writes ≠ [] → (crashS s ks).live = true from fun h => absurd rfl h)
                clear HC0 HC1 HLV HI' HWL e e2 HD
                generalize crashS s (evC l.length l.length) = s3 at *
                generalize crashS s [] = s2 at *
                generalize crashS s ks = sk at *
                obtain ⟨C, hC⟩ : ∃ C, sk.seen = C := ⟨_, rfl⟩
                have HC := hid hC
                rw [hC] at HE16 HFR HGN ⊢
                clear hC
                have hCl : C.length ≤ 2120 := by rw [← HC.out]; exact HFK.out.seen
                have hAl : A.length ≤ 60 := HA.out.2.1
                go_wp2_with fail
                go_loopg [18] C.length (fun gk s18 wx => ∃ k : Nat, k + gk = C.length ∧ s18 = .int .i64 (k : Int) ∧ Env w2 wx [(b, sk), (b2, s2), (b3, s3)] [(.slice an C.length cn, C), (.slice ao A.length co, A)])
                case atStart => exact ⟨0, by omega, rfl, HE16.out⟩
                case round =>
                  clear HE16
                  obtain ⟨k, hk, rfl, hE⟩ := hrel
                  have HX := hid hE
                  clear hE
                  cases gk with
                  | zero =>
                    have q1 : ¬ ((k : Int) < (C.length : Int)) := by omega
                    clear hk
                    go_wp2_with fail
                    have HX4 := HX
                    clear HX
                    go_loopg [19] A.length (fun gk s19 wx => ∃ i : Nat, i + gk = A.length ∧ s19 = .int .i64 (i : Int) ∧ Env w2 wx [(b, sk), (b2, s2), (b3, s3)] [(.slice an C.length cn, C), (.slice ao A.length co, A)])
                    case atStart => exact ⟨0, by omega, rfl, HX4.out⟩
                    case round =>
                      clear HX4
                      obtain ⟨i, hi, rfl, hE⟩ := hrel
                      have HX := hid hE
                      clear hE
                      cases gk with
                      | zero =>
                        have q1 : ¬ ((i : Int) < (A.length : Int)) := by omega
                        clear hi
                        go_wp2_with fail
                        refine (HX.out.crash 0 rfl HFK.out (by decide) HWK.out (HK.out.below H2.out) hkl).mono ?_
                        rintro x w18 ⟨rfl, hE⟩
                        rw [HAG.out] at hE
                        replace hE : Env w2 w18 [(b, sk), (b2, s2), (b3, s3)] [(.slice an C.length cn, C), (.slice ao A.length co, A)] := hE
                        have HE := hid hE
                        clear hE HX
                        go_wp2_with fail
                        refine (HE.out.objects 0 rfl (Nat.le_trans HFK.out.seen (by decide))).mono ?_
                        rintro x w19 ⟨ovz, rfl, hE⟩
                        rw [HC.out] at hE
                        have HE2 := hid hE
                        clear hE HE
                        go_wp2_with fail
                        refine (HE2.out.sameObj (r1 := (ovz, C)) (r2 := (.slice an C.length cn, C)) (by simp) (by simp)).mono ?_
                        rintro x w20 ⟨rfl, hE⟩
                        rw [show decide ((ovz, C).2 = ((.slice an C.length cn, C) : Value × List Ob).2) = true from decide_eq_true rfl]
                        have HE3 := hid (H2.out.trans (hE.base.mono H2.out.size))
                        clear hE HE2
                        go_wp2_with fail
                        go_ret
                        exact ⟨rfl, HE3.out⟩
                      | succ g1 =>
                        have q1 : (i : Int) < (A.length : Int) := by omega
                        have hi5 : i < A.length := by omega
                        obtain ⟨p, hp⟩ : ∃ p, A[i]? = some p := ⟨_, List.getElem?_eq_getElem hi5⟩
                        obtain ⟨go, co', eo, hm0, hm1⟩ := ob_cells (HX.out.rowOf (r := (.slice ao A.length co, A)) (by simp)) hp
                        cases eo
                        have HP := hid (HGN.out p (List.mem_of_getElem? hp))
                        have HPi := hid hp
                        clear hp hm0 hm1
                        go_wp2_with fail
                        go_loopg [20, 21] C.length (fun gk s20 s21 wx => ∃ k : Nat, k + gk = C.length ∧ s21 = .int .i64 (k : Int) ∧ s20 = .bool (noneB (C.take k) p) ∧ Env w2 wx [(b, sk), (b2, s2), (b3, s3)] [(.slice an C.length cn, C), (.slice (some ⟨go, 0, none⟩) A.length co, A)])
                        case atStart => exact ⟨0, by omega, rfl, rfl, HX.out⟩
                        case round =>
                          clear HX
                          obtain ⟨k, hk, rfl, rfl, hE⟩ := hrel
                          have HX := hid hE
                          clear hE
                          cases gk with
                          | zero =>
                            have q2 : ¬ ((k : Int) < (C.length : Int)) := by omega
                            have HNB := hid (show noneB (C.take k) p = true → ∀ q ∈ C, q.1 ≠ p.1 from by
                              rw [List.take_of_length_le (by omega)]; exact noneB_no)
                            generalize noneB (C.take k) p = gg at *
                            clear hk
                            go_wp2_with fail
                            go_loopg [20, 22] l.length (fun gk s20 s22 wx => ∃ (k : Nat) (gg : Bool), k + gk = l.length ∧ s22 = .int .i64 (k : Int) ∧ s20 = .bool gg ∧ Hid (gg = true → (∀ q ∈ C, q.1 ≠ p.1) ∧ ∀ x ∈ l.take k, ¬ (x.kind % 2 = 1 ∧ x.name = p.1)) ∧ Env w2 wx [(b, sk), (b2, s2), (b3, s3)] [(.slice an C.length cn, C), (.slice (some ⟨go, 0, none⟩) A.length co, A)])
                            case atStart => exact ⟨0, gg, by omega, rfl, rfl, hid (fun h => ⟨HNB.out h, fun x hx => by simp at hx⟩), HX.out⟩
                            case round =>
                              clear HX HNB
                              obtain ⟨k, gg, hk, rfl, rfl, HT, hE⟩ := hrel
                              have HX := hid hE
                              clear hE
                              cases gg with
                              | false =>
                                by_cases hkl : k < l.length
                                · have q3 : (k : Int) < (l.length : Int) := by omega
                                  clear hk HT
                                  go_wp2_with fail
                                  go_roundg g1
                                  case measure => omega
                                  case rel => exact ⟨i + 1, by omega, by first | rfl | simp, HX.out⟩
                                · have q3 : ¬ (k : Int) < (l.length : Int) := by omega
                                  clear hk HT
                                  go_wp2_with fail
                                  go_roundg g1
                                  case measure => omega
                                  case rel => exact ⟨i + 1, by omega, by first | rfl | simp, HX.out⟩
                              | true =>
                                cases gk with
                                | zero =>
                                  exfalso
                                  obtain ⟨h1, h2⟩ := HT.out rfl
                                  rw [List.take_of_length_le (by omega)] at h2
                                  rcases HP.out with ⟨q, hq, e⟩ | ⟨x, hx, e⟩
                                  · exact h1 q hq e
                                  · exact h2 x hx e
                                | succ g2 =>
                                  have q3 : (k : Int) < (l.length : Int) := by omega
                                  have hk7 : k < l.length := by omega
                                  obtain ⟨x, hx⟩ : ∃ x, l[k]? = some x := ⟨_, List.getElem?_eq_getElem hk7⟩
                                  obtain ⟨g, o, rfl, x0, x1, _⟩ := HL.out.at (H2.out.trans (HX.out.base.mono H2.out.size)) hx
                                  obtain ⟨go', co', eo, m0, _⟩ := ob_cells (HX.out.rowOf (r := (.slice (some ⟨go, 0, none⟩) A.length co, A)) (by simp)) HPi.out
                                  cases eo
                                  have HS7 := hid (show ¬ (x.kind % 2 = 1 ∧ x.name = p.1) → (true = true → (∀ q ∈ C, q.1 ≠ p.1) ∧ ∀ x ∈ l.take (k + 1), ¬ (x.kind % 2 = 1 ∧ x.name = p.1)) from fun hn _ => ⟨(HT.out rfl).1, fun y hy => by
                                    rw [List.take_add_one, hx] at hy
                                    rcases List.mem_append.1 hy with h' | h'
                                    · exact (HT.out rfl).2 y h'
                                    · simp at h'; rw [h']; exact hn⟩)
                                  clear hx HT
                                  by_cases hodd : x.kind % 2 = 1
                                  · have e200 : decide (((x.kind % 2 : Nat) : Int) = 1) = true := decide_eq_true (by omega)
                                    go_wp2_with fail
                                    refine Tl.wp_mix_lit (by kernel_rfl) 22 [194, 195, 196, 197, 198, 199, 200, 201, 202, 203, 204, 205, 206, 207, 208, 209, 210, 211, 212, 213, 214, 215] 227 rfl (by kernel_rfl) (AtW wr.drew) (lgT (.slice (some ⟨g, o, none⟩) l.length c1) (.slice (some ⟨go, 0, none⟩) A.length co) g o go k i x p) rfl
                                      ⟨fun a' W' hC hF => ?_, fun a' W' hC hF => ?_, fun a' W' hC hF => ?_, fun a' W' hC hF => ?_, fun a' W' hC hF => ?_, fun a' W' hC hF => ?_, fun a' W' hC hF => ?_, fun a' W' hC hF => ?_, fun a' W' hC hF => ?_, fun a' W' hC hF => ?_, fun a' W' hC hF => ?_, fun a' W' hC hF => ?_, fun a' W' hC hF => ?_, fun a' W' hC hF => ?_, fun a' W' hC hF => ?_, fun a' W' hC hF => ?_, fun a' W' hC hF => ?_, fun a' W' hC hF => ?_, fun a' W' hC hF => ?_, fun a' W' hC hF => ?_, fun a' W' hC hF => ?_, fun a' W' hC hF => ?_, trivial⟩ ?_
                                    · exact Tl.sm_v 194 _ rfl (Tl.wanted_none rfl) hC rfl (rn_move rfl ((hF 1 (by decide +kernel)).2 (by decide)))
                                    · exact Tl.sm_v 195 _ rfl (Tl.wanted_none rfl) hC rfl (rn_move rfl ((hF 22 (by decide +kernel)).2 (by decide)))
                                    · exact Tl.sm_v 196 _ rfl (Tl.wanted_none rfl) hC rfl (rn_ix35 rfl ((hF 194 (by decide +kernel)).1 (by decide)) ((hF 195 (by decide +kernel)).1 (by decide)) hk7)
                                    · exact Tl.sm_v 197 _ rfl (Tl.wanted_none rfl) hC rfl (rn_f41_0 rfl ((hF 196 (by decide +kernel)).1 (by decide)))
                                    · exact Tl.sm_v 198 _ rfl (Tl.wanted_none rfl) hC rfl (rn_load5 rfl ((hF 197 (by decide +kernel)).1 (by decide)) (by rw [show W' = _ from hC]; exact x0))
                                    · exact Tl.sm_v 199 _ rfl (Tl.wanted_none rfl) hC rfl (rn_rem5 rfl ((hF 198 (by decide +kernel)).1 (by decide)) rfl )
                                    · exact Tl.sm_v 200 _ rfl (Tl.wanted_none rfl) hC rfl (rn_eql5 rfl ((hF 199 (by decide +kernel)).1 (by decide)) rfl e200)
                                    · exact Tl.sm_v 201 _ rfl (Tl.wanted_none rfl) hC rfl (rn_move rfl ((hF 200 (by decide +kernel)).1 (by decide)))
                                    · exact Tl.sm_v 202 _ rfl (Tl.wanted_is rfl rfl ((hF 201 (by decide +kernel)).1 (by decide))) hC rfl (rn_move rfl ((hF 1 (by decide +kernel)).2 (by decide)))
                                    · exact Tl.sm_v 203 _ rfl (Tl.wanted_is rfl rfl ((hF 201 (by decide +kernel)).1 (by decide))) hC rfl (rn_move rfl ((hF 22 (by decide +kernel)).2 (by decide)))
                                    · exact Tl.sm_v 204 _ rfl (Tl.wanted_is rfl rfl ((hF 201 (by decide +kernel)).1 (by decide))) hC rfl (rn_ix35 rfl ((hF 202 (by decide +kernel)).1 (by decide)) ((hF 203 (by decide +kernel)).1 (by decide)) hk7)
                                    · exact Tl.sm_v 205 _ rfl (Tl.wanted_is rfl rfl ((hF 201 (by decide +kernel)).1 (by decide))) hC rfl (rn_f41_1 rfl ((hF 204 (by decide +kernel)).1 (by decide)))
                                    · exact Tl.sm_v 206 _ rfl (Tl.wanted_is rfl rfl ((hF 201 (by decide +kernel)).1 (by decide))) hC rfl (rn_f28_0 rfl ((hF 205 (by decide +kernel)).1 (by decide)))
                                    · exact Tl.sm_v 207 _ rfl (Tl.wanted_is rfl rfl ((hF 201 (by decide +kernel)).1 (by decide))) hC rfl (rn_load9 rfl ((hF 206 (by decide +kernel)).1 (by decide)) (by rw [show W' = _ from hC]; exact x1))
                                    · exact Tl.sm_v 208 _ rfl (Tl.wanted_is rfl rfl ((hF 201 (by decide +kernel)).1 (by decide))) hC rfl (rn_move rfl ((hF 10 (by decide +kernel)).2 (by decide)))
                                    · exact Tl.sm_v 209 _ rfl (Tl.wanted_is rfl rfl ((hF 201 (by decide +kernel)).1 (by decide))) hC rfl (rn_move rfl ((hF 19 (by decide +kernel)).2 (by decide)))
                                    · exact Tl.sm_v 210 _ rfl (Tl.wanted_is rfl rfl ((hF 201 (by decide +kernel)).1 (by decide))) hC rfl (rn_ix45 rfl ((hF 208 (by decide +kernel)).1 (by decide)) ((hF 209 (by decide +kernel)).1 (by decide)) hi5)
                                    · exact Tl.sm_v 211 _ rfl (Tl.wanted_is rfl rfl ((hF 201 (by decide +kernel)).1 (by decide))) hC rfl (rn_f28_0 rfl ((hF 210 (by decide +kernel)).1 (by decide)))
                                    · exact Tl.sm_v 212 _ rfl (Tl.wanted_is rfl rfl ((hF 201 (by decide +kernel)).1 (by decide))) hC rfl (rn_load9 rfl ((hF 211 (by decide +kernel)).1 (by decide)) (by rw [show W' = _ from hC]; exact m0))
                                    · exact Tl.sm_v 213 _ rfl (Tl.wanted_is rfl rfl ((hF 201 (by decide +kernel)).1 (by decide))) hC rfl (rn_eql9 rfl ((hF 207 (by decide +kernel)).1 (by decide)) ((hF 212 (by decide +kernel)).1 (by decide)) rfl)
                                    · exact Tl.sm_v 214 _ rfl (Tl.wanted_none rfl) hC rfl (rn_pickT rfl ((hF 201 (by decide +kernel)).1 (by decide)) ((hF 213 (by decide +kernel)).1 (by decide)))
                                    · exact Tl.sm_v 215 _ rfl (Tl.wanted_none rfl) hC rfl (rn_not rfl ((hF 214 (by decide +kernel)).1 (by decide)))
                                    intro v wB hw hv
                                    obtain rfl : wB = _ := hw
                                    have vv : v 215 = .bool (!decide (x.name = p.1)) := hv 215 (by decide)
                                    clear hv
                                    simp only [Tl.fill, List.drop_succ_cons, List.drop_zero, wpList]
                                    rw [if_pos (Tl.wanted_none rfl)]
                                    simp only [Act.put, List.setIfInBounds_toArray, List.set_cons_succ, List.set_cons_zero, vv]
                                    clear vv
                                    refine .inl (wp_assign (x := .tmp 215) (d := 20) (v := .bool (!decide (x.name = p.1))) ?_ ?_ ?_ ?_)
                                    · rfl
                                    · rfl
                                    · rfl
                                    simp only [Act.put, List.setIfInBounds_toArray, List.set_cons_succ, List.set_cons_zero]
                                    by_cases hnm : x.name = p.1
                                    · rw [decide_eq_true hnm]
                                      clear hnm e200 x0 x1 m0
                                      go_wp2_with fail
                                      go_roundg g2
                                      case measure => omega
                                      case rel => exact ⟨k + 1, false, by omega, by first | rfl | simp, rfl, hid (fun h => by cases h), HX.out.below (Below.refl _ _).drew⟩
                                    · rw [decide_eq_false hnm]
                                      have HS8 := hid (HS7.out (fun h => hnm h.2))
                                      clear hnm e200 x0 x1 m0
                                      go_wp2_with fail
                                      go_roundg g2
                                      case measure => omega
                                      case rel => exact ⟨k + 1, true, by omega, by first | rfl | simp, rfl, hid (fun _ => HS8.out trivial), HX.out.below (Below.refl _ _).drew⟩
                                  · have e200 : decide (((x.kind % 2 : Nat) : Int) = 1) = false := decide_eq_false (by omega)
                                    have HS8 := hid (HS7.out (fun h => hodd h.1))
                                    go_wp2_with fail
                                    refine Tl.wp_mix_lit (by kernel_rfl) 22 [194, 195, 196, 197, 198, 199, 200, 201, 202, 203, 204, 205, 206, 207, 208, 209, 210, 211, 212, 213, 214, 215] 227 rfl (by kernel_rfl) (AtW wr.drew) (lgN (.slice (some ⟨g, o, none⟩) l.length c1) g o k x) rfl
                                      ⟨fun a' W' hC hF => ?_, fun a' W' hC hF => ?_, fun a' W' hC hF => ?_, fun a' W' hC hF => ?_, fun a' W' hC hF => ?_, fun a' W' hC hF => ?_, fun a' W' hC hF => ?_, fun a' W' hC hF => ?_, fun a' W' hC hF => ?_, fun a' W' hC hF => ?_, fun a' W' hC hF => ?_, fun a' W' hC hF => ?_, fun a' W' hC hF => ?_, fun a' W' hC hF => ?_, fun a' W' hC hF => ?_, fun a' W' hC hF => ?_, fun a' W' hC hF => ?_, fun a' W' hC hF => ?_, fun a' W' hC hF => ?_, fun a' W' hC hF => ?_, fun a' W' hC hF => ?_, fun a' W' hC hF => ?_, trivial⟩ ?_
                                    · exact Tl.sm_v 194 _ rfl (Tl.wanted_none rfl) hC rfl (rn_move rfl ((hF 1 (by decide +kernel)).2 (by decide)))
                                    · exact Tl.sm_v 195 _ rfl (Tl.wanted_none rfl) hC rfl (rn_move rfl ((hF 22 (by decide +kernel)).2 (by decide)))
                                    · exact Tl.sm_v 196 _ rfl (Tl.wanted_none rfl) hC rfl (rn_ix35 rfl ((hF 194 (by decide +kernel)).1 (by decide)) ((hF 195 (by decide +kernel)).1 (by decide)) hk7)
                                    · exact Tl.sm_v 197 _ rfl (Tl.wanted_none rfl) hC rfl (rn_f41_0 rfl ((hF 196 (by decide +kernel)).1 (by decide)))
                                    · exact Tl.sm_v 198 _ rfl (Tl.wanted_none rfl) hC rfl (rn_load5 rfl ((hF 197 (by decide +kernel)).1 (by decide)) (by rw [show W' = _ from hC]; exact x0))
                                    · exact Tl.sm_v 199 _ rfl (Tl.wanted_none rfl) hC rfl (rn_rem5 rfl ((hF 198 (by decide +kernel)).1 (by decide)) rfl )
                                    · exact Tl.sm_v 200 _ rfl (Tl.wanted_none rfl) hC rfl (rn_eql5 rfl ((hF 199 (by decide +kernel)).1 (by decide)) rfl e200)
                                    · exact Tl.sm_v 201 _ rfl (Tl.wanted_none rfl) hC rfl (rn_move rfl ((hF 200 (by decide +kernel)).1 (by decide)))
                                    · exact Tl.sm_skip (Tl.wanted_not rfl rfl ((hF 201 (by decide +kernel)).1 (by decide))) (fun d hd => by cases hd; trivial)
                                    · exact Tl.sm_skip (Tl.wanted_not rfl rfl ((hF 201 (by decide +kernel)).1 (by decide))) (fun d hd => by cases hd; trivial)
                                    · exact Tl.sm_skip (Tl.wanted_not rfl rfl ((hF 201 (by decide +kernel)).1 (by decide))) (fun d hd => by cases hd; trivial)
                                    · exact Tl.sm_skip (Tl.wanted_not rfl rfl ((hF 201 (by decide +kernel)).1 (by decide))) (fun d hd => by cases hd; trivial)
                                    · exact Tl.sm_skip (Tl.wanted_not rfl rfl ((hF 201 (by decide +kernel)).1 (by decide))) (fun d hd => by cases hd; trivial)
                                    · exact Tl.sm_skip (Tl.wanted_not rfl rfl ((hF 201 (by decide +kernel)).1 (by decide))) (fun d hd => by cases hd; trivial)
                                    · exact Tl.sm_skip (Tl.wanted_not rfl rfl ((hF 201 (by decide +kernel)).1 (by decide))) (fun d hd => by cases hd; trivial)
                                    · exact Tl.sm_skip (Tl.wanted_not rfl rfl ((hF 201 (by decide +kernel)).1 (by decide))) (fun d hd => by cases hd; trivial)
                                    · exact Tl.sm_skip (Tl.wanted_not rfl rfl ((hF 201 (by decide +kernel)).1 (by decide))) (fun d hd => by cases hd; trivial)
                                    · exact Tl.sm_skip (Tl.wanted_not rfl rfl ((hF 201 (by decide +kernel)).1 (by decide))) (fun d hd => by cases hd; trivial)
                                    · exact Tl.sm_skip (Tl.wanted_not rfl rfl ((hF 201 (by decide +kernel)).1 (by decide))) (fun d hd => by cases hd; trivial)
                                    · exact Tl.sm_skip (Tl.wanted_not rfl rfl ((hF 201 (by decide +kernel)).1 (by decide))) (fun d hd => by cases hd; trivial)
                                    · exact Tl.sm_v 214 _ rfl (Tl.wanted_none rfl) hC rfl (rn_pickF rfl ((hF 201 (by decide +kernel)).1 (by decide)) rfl)
                                    · exact Tl.sm_v 215 (.bool (!false)) rfl (Tl.wanted_none rfl) hC rfl (rn_not (b := false) rfl ((hF 214 (by decide +kernel)).1 (by decide)))
                                    intro v wB hw hv
                                    obtain rfl : wB = _ := hw
                                    have vv : v 215 = .bool true := hv 215 (by decide)
                                    clear hv
                                    simp only [Tl.fill, List.drop_succ_cons, List.drop_zero, wpList]
                                    rw [if_pos (Tl.wanted_none rfl)]
                                    simp only [Act.put, List.setIfInBounds_toArray, List.set_cons_succ, List.set_cons_zero, vv]
                                    clear vv
                                    refine .inl (wp_assign (x := .tmp 215) (d := 20) (v := .bool true) ?_ ?_ ?_ ?_)
                                    · rfl
                                    · rfl
                                    · rfl
                                    simp only [Act.put, List.setIfInBounds_toArray, List.set_cons_succ, List.set_cons_zero]
                                    clear e200 x0 x1 m0
                                    go_wp2_with fail
                                    go_roundg g2
                                    case measure => omega
                                    case rel => exact ⟨k + 1, true, by omega, by first | rfl | simp, rfl, hid (fun _ => HS8.out trivial), HX.out.below (Below.refl _ _).drew⟩
                          | succ g2 =>
                            have q2 : (k : Int) < (C.length : Int) := by omega
                            have hk6 : k < C.length := by omega
                            obtain ⟨q, hq⟩ : ∃ q, C[k]? = some q := ⟨_, List.getElem?_eq_getElem hk6⟩
                            obtain ⟨gn, cn', en, n0, _⟩ := ob_cells (HX.out.rowOf (r := (.slice an C.length cn, C)) (by simp)) hq
                            cases en
                            obtain ⟨go', co', eo, m0, _⟩ := ob_cells (HX.out.rowOf (r := (.slice (some ⟨go, 0, none⟩) A.length co, A)) (by simp)) HPi.out
                            cases eo
                            have HNS := hid (noneB_succ (p := p) hq)
                            clear hq
                            cases hgg : noneB (C.take k) p with
                            | true =>
                              rw [hgg] at HNS
                              clear hgg
                              go_wp2_with fail
                              refine Tl.wp_mix_lit (by kernel_rfl) 14 [171, 172, 173, 174, 175, 176, 177, 178, 179, 180, 181, 182, 183, 184] 227 rfl (by kernel_rfl) (AtW wr.drew) (lsT (.slice (some ⟨gn, 0, none⟩) C.length cn) (.slice (some ⟨go, 0, none⟩) A.length co) gn go k i q p) rfl
                                ⟨fun a' W' hC hF => ?_, fun a' W' hC hF => ?_, fun a' W' hC hF => ?_, fun a' W' hC hF => ?_, fun a' W' hC hF => ?_, fun a' W' hC hF => ?_, fun a' W' hC hF => ?_, fun a' W' hC hF => ?_, fun a' W' hC hF => ?_, fun a' W' hC hF => ?_, fun a' W' hC hF => ?_, fun a' W' hC hF => ?_, fun a' W' hC hF => ?_, fun a' W' hC hF => ?_, trivial⟩ ?_
                              · exact Tl.sm_v 171 _ rfl (Tl.wanted_none rfl) hC rfl (rn_move rfl ((hF 20 (by decide +kernel)).2 (by decide)))
                              · exact Tl.sm_v 172 _ rfl (Tl.wanted_none rfl) hC rfl (rn_move rfl ((hF 171 (by decide +kernel)).1 (by decide)))
                              · exact Tl.sm_v 173 _ rfl (Tl.wanted_is rfl rfl ((hF 172 (by decide +kernel)).1 (by decide))) hC rfl (rn_move rfl ((hF 17 (by decide +kernel)).2 (by decide)))
                              · exact Tl.sm_v 174 _ rfl (Tl.wanted_is rfl rfl ((hF 172 (by decide +kernel)).1 (by decide))) hC rfl (rn_move rfl ((hF 21 (by decide +kernel)).2 (by decide)))
                              · exact Tl.sm_v 175 _ rfl (Tl.wanted_is rfl rfl ((hF 172 (by decide +kernel)).1 (by decide))) hC rfl (rn_ix45 rfl ((hF 173 (by decide +kernel)).1 (by decide)) ((hF 174 (by decide +kernel)).1 (by decide)) hk6)
                              · exact Tl.sm_v 176 _ rfl (Tl.wanted_is rfl rfl ((hF 172 (by decide +kernel)).1 (by decide))) hC rfl (rn_f28_0 rfl ((hF 175 (by decide +kernel)).1 (by decide)))
                              · exact Tl.sm_v 177 _ rfl (Tl.wanted_is rfl rfl ((hF 172 (by decide +kernel)).1 (by decide))) hC rfl (rn_load9 rfl ((hF 176 (by decide +kernel)).1 (by decide)) (by rw [show W' = _ from hC]; exact n0))
                              · exact Tl.sm_v 178 _ rfl (Tl.wanted_is rfl rfl ((hF 172 (by decide +kernel)).1 (by decide))) hC rfl (rn_move rfl ((hF 10 (by decide +kernel)).2 (by decide)))
                              · exact Tl.sm_v 179 _ rfl (Tl.wanted_is rfl rfl ((hF 172 (by decide +kernel)).1 (by decide))) hC rfl (rn_move rfl ((hF 19 (by decide +kernel)).2 (by decide)))
                              · exact Tl.sm_v 180 _ rfl (Tl.wanted_is rfl rfl ((hF 172 (by decide +kernel)).1 (by decide))) hC rfl (rn_ix45 rfl ((hF 178 (by decide +kernel)).1 (by decide)) ((hF 179 (by decide +kernel)).1 (by decide)) hi5)
                              · exact Tl.sm_v 181 _ rfl (Tl.wanted_is rfl rfl ((hF 172 (by decide +kernel)).1 (by decide))) hC rfl (rn_f28_0 rfl ((hF 180 (by decide +kernel)).1 (by decide)))
                              · exact Tl.sm_v 182 _ rfl (Tl.wanted_is rfl rfl ((hF 172 (by decide +kernel)).1 (by decide))) hC rfl (rn_load9 rfl ((hF 181 (by decide +kernel)).1 (by decide)) (by rw [show W' = _ from hC]; exact m0))
                              · exact Tl.sm_v 183 _ rfl (Tl.wanted_is rfl rfl ((hF 172 (by decide +kernel)).1 (by decide))) hC rfl (rn_neq9 rfl ((hF 177 (by decide +kernel)).1 (by decide)) ((hF 182 (by decide +kernel)).1 (by decide)) )
                              · exact Tl.sm_v 184 _ rfl (Tl.wanted_none rfl) hC rfl (rn_pickT rfl ((hF 172 (by decide +kernel)).1 (by decide)) ((hF 183 (by decide +kernel)).1 (by decide)))
                              intro v wB hw hv
                              obtain rfl : wB = _ := hw
                              have vv : v 184 = .bool (!decide (q.1 = p.1)) := hv 184 (by decide)
                              clear hv
                              simp only [Tl.fill, List.drop_succ_cons, List.drop_zero, wpList]
                              rw [if_pos (Tl.wanted_none rfl)]
                              simp only [Act.put, List.setIfInBounds_toArray, List.set_cons_succ, List.set_cons_zero, vv]
                              clear vv
                              refine .inl (wp_assign (x := .tmp 184) (d := 20) (v := .bool (!decide (q.1 = p.1))) ?_ ?_ ?_ ?_)
                              · rfl
                              · rfl
                              · rfl
                              simp only [Act.put, List.setIfInBounds_toArray, List.set_cons_succ, List.set_cons_zero]
                              clear n0 m0
                              go_wp2_with fail
                              go_roundg g2
                              case measure => omega
                              case rel => exact ⟨k + 1, by omega, by first | rfl | simp, by rw [HNS.out]; rfl, HX.out.below (Below.refl _ _).drew⟩
                            | false =>
                              rw [hgg] at HNS
                              clear hgg
                              go_wp2_with fail
                              refine Tl.wp_mix_lit (by kernel_rfl) 14 [171, 172, 173, 174, 175, 176, 177, 178, 179, 180, 181, 182, 183, 184] 227 rfl (by kernel_rfl) (AtW wr.drew) lsN rfl
                                ⟨fun a' W' hC hF => ?_, fun a' W' hC hF => ?_, fun a' W' hC hF => ?_, fun a' W' hC hF => ?_, fun a' W' hC hF => ?_, fun a' W' hC hF => ?_, fun a' W' hC hF => ?_, fun a' W' hC hF => ?_, fun a' W' hC hF => ?_, fun a' W' hC hF => ?_, fun a' W' hC hF => ?_, fun a' W' hC hF => ?_, fun a' W' hC hF => ?_, fun a' W' hC hF => ?_, trivial⟩ ?_
                              · exact Tl.sm_v 171 _ rfl (Tl.wanted_none rfl) hC rfl (rn_move rfl ((hF 20 (by decide +kernel)).2 (by decide)))
                              · exact Tl.sm_v 172 _ rfl (Tl.wanted_none rfl) hC rfl (rn_move rfl ((hF 171 (by decide +kernel)).1 (by decide)))
                              · exact Tl.sm_skip (Tl.wanted_not rfl rfl ((hF 172 (by decide +kernel)).1 (by decide))) (fun d hd => by cases hd; trivial)
                              · exact Tl.sm_skip (Tl.wanted_not rfl rfl ((hF 172 (by decide +kernel)).1 (by decide))) (fun d hd => by cases hd; trivial)
                              · exact Tl.sm_skip (Tl.wanted_not rfl rfl ((hF 172 (by decide +kernel)).1 (by decide))) (fun d hd => by cases hd; trivial)
                              · exact Tl.sm_skip (Tl.wanted_not rfl rfl ((hF 172 (by decide +kernel)).1 (by decide))) (fun d hd => by cases hd; trivial)
                              · exact Tl.sm_skip (Tl.wanted_not rfl rfl ((hF 172 (by decide +kernel)).1 (by decide))) (fun d hd => by cases hd; trivial)
                              · exact Tl.sm_skip (Tl.wanted_not rfl rfl ((hF 172 (by decide +kernel)).1 (by decide))) (fun d hd => by cases hd; trivial)
                              · exact Tl.sm_skip (Tl.wanted_not rfl rfl ((hF 172 (by decide +kernel)).1 (by decide))) (fun d hd => by cases hd; trivial)
                              · exact Tl.sm_skip (Tl.wanted_not rfl rfl ((hF 172 (by decide +kernel)).1 (by decide))) (fun d hd => by cases hd; trivial)
                              · exact Tl.sm_skip (Tl.wanted_not rfl rfl ((hF 172 (by decide +kernel)).1 (by decide))) (fun d hd => by cases hd; trivial)
                              · exact Tl.sm_skip (Tl.wanted_not rfl rfl ((hF 172 (by decide +kernel)).1 (by decide))) (fun d hd => by cases hd; trivial)
                              · exact Tl.sm_skip (Tl.wanted_not rfl rfl ((hF 172 (by decide +kernel)).1 (by decide))) (fun d hd => by cases hd; trivial)
                              · exact Tl.sm_v 184 _ rfl (Tl.wanted_none rfl) hC rfl (rn_pickF rfl ((hF 172 (by decide +kernel)).1 (by decide)) rfl)
                              intro v wB hw hv
                              obtain rfl : wB = _ := hw
                              have vv : v 184 = .bool false := hv 184 (by decide)
                              clear hv
                              simp only [Tl.fill, List.drop_succ_cons, List.drop_zero, wpList]
                              rw [if_pos (Tl.wanted_none rfl)]
                              simp only [Act.put, List.setIfInBounds_toArray, List.set_cons_succ, List.set_cons_zero, vv]
                              clear vv
                              refine .inl (wp_assign (x := .tmp 184) (d := 20) (v := .bool false) ?_ ?_ ?_ ?_)
                              · rfl
                              · rfl
                              · rfl
                              simp only [Act.put, List.setIfInBounds_toArray, List.set_cons_succ, List.set_cons_zero]
                              clear n0 m0
                              go_wp2_with fail
                              go_roundg g2
                              case measure => omega
                              case rel => exact ⟨k + 1, by omega, by first | rfl | simp, by rw [HNS.out]; rfl, HX.out.below (Below.refl _ _).drew⟩
                  | succ g1 =>
                    have q1 : (k : Int) < (C.length : Int) := by omega
                    obtain ⟨p, hp⟩ : ∃ p, C[k]? = some p := ⟨_, List.getElem?_eq_getElem (by omega)⟩
                    obtain ⟨gn, cn', en, d0, d1⟩ := ob_cells (HX.out.rowOf (r := (.slice an C.length cn, C)) (by simp)) hp
                    cases en
                    have HP := hid (HFR.out p (List.mem_of_getElem? hp))
                    clear hp
                    go_wp2_with fail
                    refine (from_any (p := p) (HX.out.rowOf (r := (.slice ao A.length co, A)) (by simp)) (HL.out.below (H2.out.trans (HX.out.base.mono H2.out.size)))).mono ?_
                    rintro x w17 ⟨rfl, hb⟩
                    rw [HP.out]
                    have HE := hid (HX.out.below hb)
                    clear hb d0 d1
                    go_wp2_with fail
                    go_roundg g1
                    case measure => omega
                    case rel => exact ⟨k + 1, by omega, by first | rfl | simp, HE.out⟩
              | succ g1 =>
                have q1 : (k : Int) < (l.length : Int) := by omega
                obtain ⟨e1, e2, e3⟩ := hev.ev (show k < l.length by omega)
                have HE3 := hid e3
                have HBW := hid (hbw.setCell (p := ⟨w8.heap.size, k, none⟩) (Nat.le_refl _) (.int .i64 65536))
                clear e3 hbw hev
                go_wp2_with fail
                go_roundg g1
                case measure => omega
                case rel => exact ⟨k + 1, by omega, by first | rfl | simp, HE3.out, HBW.out⟩
          | succ g1 =>
            have q1 : (k : Int) < (l.length : Int) := by omega
            have hk1 : k < l.length := by omega
            obtain ⟨x, hx⟩ : ∃ x, l[k]? = some x := ⟨_, List.getElem?_eq_getElem hk1⟩
            obtain ⟨g, o, rfl, d0, d1, d2⟩ := HL.out.at (H2.out.trans (HX.out.base.mono H2.out.size)) hx
            have hW := acW_le (List.mem_of_getElem? hx)
            have hsm := HS.out
            have HN := hid (show x.name.size ≤ 1000000 from by unfold acW at hW; omega)
            have HF := hid (show Behind A l (actS s x).2 ∧ Fit (60 + (k + 1)) (actS s x).2 ∧ (actS s x).2.writes.length ≤ k + 1 from ⟨HI.out.1.act x (List.mem_of_getElem? hx), act_fit HI.out.2.1 x, Nat.le_trans (act_wl HI.out.2.1 x) (Nat.succ_le_succ HI.out.2.2)⟩)
            clear hx hW hsm hk1
            by_cases hev : x.kind % 2 = 0
            · have q2 : ((x.kind : Int).tmod 2 == 0) = true := by
                rw [Int.tmod_eq_emod_of_nonneg (by omega)]; simp; omega
              go_wp2_with fail
              refine (HX.out.put 0 rfl HI.out.2.1 (by omega) x.name x.data).mono ?_
              have HT := hid (show putS s x.name x.data = actS s x from by unfold actS; rw [if_pos hev])
              clear hev q2 d0 d1 d2
              rintro x6 w6 ⟨rfl, hE⟩
              rw [HT.out] at hE ⊢
              replace hE : Env w2 w6 [(b, (actS s x).2)] [(ov, A)] := hE
              generalize (actS s x).2 = s' at *
              generalize (actS s x).1 = e at *
              have HE := hid hE
              clear hE
              go_wp2_with fail
              go_roundg g1
              case measure => omega
              case rel => exact ⟨k + 1, s', by omega, by first | rfl | simp, HF, HE.out⟩
            · have q2 : ((x.kind : Int).tmod 2 == 0) = false := by
                rw [Int.tmod_eq_emod_of_nonneg (by omega)]
                exact beq_eq_false_iff_ne.2 (by omega)
              go_wp2_with fail
              refine (HX.out.del 0 rfl HI.out.2.1 (by omega) x.name HN.out).mono ?_
              have HT := hid (show delS s x.name = actS s x from by unfold actS; rw [if_neg hev])
              clear hev q2 d0 d1 d2
              rintro x6 w6 ⟨rfl, hE⟩
              rw [HT.out] at hE ⊢
              replace hE : Env w2 w6 [(b, (actS s x).2)] [(ov, A)] := hE
              generalize (actS s x).2 = s' at *
              generalize (actS s x).1 = e at *
              have HE := hid hE
              clear hE
              go_wp2_with fail
              go_roundg g1
              case measure => omega
              case rel => exact ⟨k + 1, s', by omega, by first | rfl | simp, HF, HE.out⟩
      | succ g1 =>
        have q1 : (k : Int) < (M.length : Int) := by omega
        have hk1 : k < M.length := by omega
        obtain ⟨p, hp⟩ : ∃ p, M[k]? = some p := ⟨_, List.getElem?_eq_getElem hk1⟩
        obtain ⟨g, o, rfl, d0, d1⟩ := HM.out.at (H2.out.trans (HX.out.base.mono H2.out.size)) hp
        have hps := HM.out.2.2 p (List.mem_of_getElem? hp)
        have hw1 : IntKind.i64.wrap ((N : Int) + (p.2.size : Int)) = ((N + p.2.size : Nat) : Int) := wrapN (by omega)
        have hN' : N + p.2.size ≤ (k + 1) * 140737488355328 := by omega
        obtain ⟨N', hN2⟩ : ∃ N', N + p.2.size = N' := ⟨_, rfl⟩
        rw [hN2] at hw1 hN'
        clear hp hps hk1 hN hN2
        by_cases hsm : N' < 20000
        · have q2 : (N' : Int) < 20000 := by omega
          go_wp2_with fail
          refine (HX.out.put 0 rfl HI.out.2 (by omega) p.1 p.2).mono ?_
          clear d0 d1 hw1
          rintro x5 w5 ⟨rfl, hE⟩
          replace hE : Env w2 w5 [(b, (putS s p.1 p.2).2)] [] := hE
          have HF := hid (show Behind [] (acOf p :: lf) (putS s p.1 p.2).2 ∧ Fit (k + 1) (putS s p.1 p.2).2 from ⟨by
            rw [← act_of]; exact (HI.out.1.more fun x hx => List.mem_cons_of_mem _ hx).act (acOf p) List.mem_cons_self, put_fit HI.out.2 _ _⟩)
          generalize (putS s p.1 p.2).2 = s' at *
          generalize (putS s p.1 p.2).1 = e at *
          have HE := hid hE
          clear hE
          go_wp2_with fail
          go_roundg g1
          case measure => omega
          case rel => exact ⟨k + 1, N', s', acOf p :: lf, by omega, by first | rfl | simp, rfl, hN', HF, HE.out⟩
        · have q2 : ¬ (N' : Int) < 20000 := by omega
          go_wp2_with fail
          go_roundg g1
          case measure => omega
          case rel => exact ⟨k + 1, N', s, lf, by omega, by first | rfl | simp, rfl, hN', hid ⟨HI.out.1, HI.out.2.more (by omega)⟩, HX.out⟩
end Go.Proofs.Ytpeeelnkelnlkaa
