/- Steps that are handed in; long. -/
import Derived.Test.YtgdiaflikfdnaaaGreatE4
namespace Go.Proofs.YtgdiaflikfdnaaaGreat
open Go.RowKit Go.Maps
/-- a step, before long was asked -/
structure Sp0 (w : World) (x : Sp) : Prop where
  kd : x.kd < 256
  i : x.i < 9223372036854775808
  nm : x.nm.size < 9223372036854775808
  dt : x.dt.size < 9223372036854775808
  lv : RdS w x.lv x.sv
  sl : x.sv.length ≤ 9223372036854775807
  fk0 : 0 ≤ x.fk
  fk1 : x.fk < 256
  fn : x.fn < 9223372036854775808
  fa : x.fa < 9223372036854775808
theorem Sp0.ok {w : World} {x : Sp} (h : Sp0 w x) (hn : x.nm.size ≤ 200) : SpOk w x := ⟨h.kd, h.i, by omega, h.lv, h.sl, h.fk0, h.fk1, h.fn, h.fa⟩
/-- a list of steps that can be read -/
def Steps (W : World) (v : Value) (l : List Sp) : Prop := ((∃ A c, v = .slice A 0 c ∧ l = []) ∨ ∃ g o cap, v = .slice (some ⟨g, o, none⟩) l.length cap ∧ l.length ≤ 9223372036854775807 ∧ g < W.heap.size ∧ ∀ (j : Nat) (x : Sp), l[j]? = some x → ∀ (i : Nat) (u : Value), (spcells x)[i]? = some u → W.cell? ⟨g, o + j * 10 + i, none⟩ = some u) ∧ ∀ x ∈ l, Sp0 W x
set_option maxHeartbeats 4000000 in
set_option maxRecDepth 20000 in
theorem long_any {w : World} {v : Value} {l : List Sp} (h : Steps w v l) (Q : Ending → World → Prop) (hqT : ∀ w', Below w.heap.size w w' → Q (.returned (.bool true)) w') (hqF : l.length ≤ 60 ∧ (∀ x ∈ l, x.nm.size ≤ 200) → ∀ z w', Below w.heap.size w w' → Q (.returned (.bool z)) w') : Calls Tryz.prog 6 #[v] w Q := by
  have HT := hid hqT
  have HFF := hid hqF
  clear hqT hqF
  obtain ⟨h1, hok⟩ := h
  rcases h1 with ⟨A0, c0, rfl, rfl⟩ | ⟨g, o, cap, rfl, hl, hg, hc⟩
  · clear hok
    go_enter Tryz.func6, Tryz.ntmps6
    go_wp2_with fail
    refine wp_loop_rounds 1 ?_
    rw [rounds_succ]
    go_wp2_with fail
    exact HFF.out ⟨by decide, fun x hx => by cases hx⟩ _ _ (Below.refl _ _)
  · have HC := hid hc
    have HO := hid hok
    clear hc hok
    generalize hL : l.length = L at *
    have HL := hid hL
    clear hL
    by_cases h60 : 60 < L
    · have q0 : (60 : Int) < (L : Int) := by omega
      clear h60
      go_enter Tryz.func6, Tryz.ntmps6
      go_wp2_with fail
      exact HT.out _ (Below.refl _ _)
    have q0 : ¬ (60 : Int) < (L : Int) := by omega
    go_enter Tryz.func6, Tryz.ntmps6
    go_wp2_with fail
    go_loopg [3, 4, 5] L (fun gk s3 s4 s5 wx => ∃ k N : Nat, k + gk = L ∧ s4 = .int .i64 (k : Int) ∧ s3 = .int .i64 (N : Int) ∧ N ≤ k * 70000 ∧ Hid (∀ x ∈ l.take k, x.nm.size ≤ 200) ∧ Below w.heap.size w wx)
    case atStart => exact ⟨0, 0, by omega, rfl, rfl, by omega, hid (fun x hx => by simp at hx), Below.refl _ _⟩
    case round =>
      obtain ⟨k, N, hk, rfl, rfl, hNk, HN, hbw⟩ := hrel
      have HBW := hid hbw
      cases gk with
      | zero =>
        have q1 : ¬ ((k : Int) < (L : Int)) := by omega
        have HE := hid (show l.length ≤ 60 ∧ ∀ x ∈ l, x.nm.size ≤ 200 from by
          have := HN.out
          rw [List.take_of_length_le (by rw [HL.out]; omega)] at this
          exact ⟨by rw [HL.out]; omega, this⟩)
        clear hbw HN
        rw [HL.out] at HE
        go_wp2_with fail
        exact HFF.out HE.out _ _ HBW.out
      | succ g1 =>
        have q1 : (k : Int) < (L : Int) := by omega
        have hk1 : k < L := by omega
        obtain ⟨x, hx⟩ : ∃ x, l[k]? = some x := ⟨_, List.getElem?_eq_getElem (by rw [HL.out]; exact hk1)⟩
        have hox := HO.out x (List.mem_of_getElem? hx)
        obtain ⟨la, lc, hlv⟩ := hox.lv.form
        have c2 : wr.cell? ⟨g, o + k * 10 + 2, none⟩ = some (.string x.nm) := by rw [hbw.cell (p := ⟨g, o + k * 10 + 2, none⟩) hg]; exact HC.out k x hx 2 _ rfl
        have c3 : wr.cell? ⟨g, o + k * 10 + 2 + 1, none⟩ = some (.string x.dt) := by rw [hbw.cell (p := ⟨g, o + k * 10 + 2 + 1, none⟩) hg]; exact HC.out k x hx 3 _ rfl
        have c4 : wr.cell? ⟨g, o + k * 10 + 4, none⟩ = some (.slice la x.sv.length lc) := by rw [hbw.cell (p := ⟨g, o + k * 10 + 4, none⟩) hg, ← hlv]; exact HC.out k x hx 4 _ rfl
        have HX := hid hx
        have HOX := hid hox
        have HLV := hid hlv
        clear hx hox hbw hlv
        by_cases n1 : 200 < x.nm.size
        · have p1 : (200 : Int) < (x.nm.size : Int) := by omega
          clear n1
          go_wp2_with fail
          exact HT.out _ HBW.out
        have p1 : ¬ (200 : Int) < (x.nm.size : Int) := by omega
        by_cases n2 : 70000 < x.dt.size
        · have p2 : (70000 : Int) < (x.dt.size : Int) := by omega
          clear n2
          go_wp2_with fail
          exact HT.out _ HBW.out
        have p2 : ¬ (70000 : Int) < (x.dt.size : Int) := by omega
        by_cases n3 : 50 < x.sv.length
        · have p3 : (50 : Int) < (x.sv.length : Int) := by omega
          clear n3
          go_wp2_with fail
          exact HT.out _ HBW.out
        have p3 : ¬ (50 : Int) < (x.sv.length : Int) := by omega
        have wN : IntKind.i64.wrap ((N : Int) + (x.dt.size : Int)) = ((N + x.dt.size : Nat) : Int) := wrapN (by omega)
        go_wp2_with fail
        clear c2 c3
        obtain ⟨m, hm⟩ : ∃ m, x.sv.length = m := ⟨_, rfl⟩
        have HM := hid hm
        have hm50 : m ≤ 50 := by omega
        clear c4 hm
        go_loopg [5] m (fun gj s5 wy => ∃ j : Nat, j + gj = m ∧ s5 = .int .i64 (j : Int) ∧ Below w.heap.size w wy)
        case atStart => exact ⟨0, by omega, rfl, HBW.out⟩
        case round =>
          obtain ⟨j, hj, rfl, hbw⟩ := hrel
          have HBY := hid hbw
          have c4 : wr.cell? ⟨g, o + k * 10 + 4, none⟩ = some (.slice la m lc) := by rw [hbw.cell (p := ⟨g, o + k * 10 + 4, none⟩) hg, ← HM.out, ← HLV.out]; exact HC.out k x HX.out 4 _ rfl
          clear hbw
          cases gk with
          | zero =>
            have q5 : ¬ ((j : Int) < (m : Int)) := by omega
            have HNN := hid (show ∀ y ∈ l.take (k + 1), y.nm.size ≤ 200 from fun y hy => by
              rw [List.take_add_one, HX.out] at hy
              rcases List.mem_append.1 hy with h | h
              · exact HN.out y h
              · simp at h; subst h; omega)
            go_wp2_with fail
            go_roundg g1
            case measure => omega
            case rel => exact ⟨k + 1, N + x.dt.size, by omega, by first | rfl | simp, by first | rfl | simp, by omega, HNN, HBY.out⟩
          | succ g2 =>
            have q5 : (j : Int) < (m : Int) := by omega
            have hjm : j < m := by omega
            obtain ⟨y, hy⟩ : ∃ y, x.sv[j]? = some y := ⟨_, List.getElem?_eq_getElem (by rw [HM.out]; exact hjm)⟩
            obtain ⟨k1, k2⟩ := HOX.out.lv
            rcases k1 with ⟨A, c', e1, e2⟩ | ⟨g5, o5, cap5, _, e1, hg5, hc5⟩
            · have := HM.out
              rw [e2] at this
              simp at this
              omega
            · obtain ⟨ka, kc, hkv⟩ := (k2 y (List.mem_of_getElem? hy)).1.form
              have c5 : wr.cell? ⟨g5, o5 + j, none⟩ = some (.slice ka y.ks.length kc) := by rw [HBY.out.cell (p := ⟨g5, o5 + j, none⟩) hg5, hc5 j y hy, hkv]
              have e3 := HLV.out
              rw [e1] at e3
              cases e3
              clear e1 k2 hc5 hg5 hy hkv
              by_cases n5 : 100 < y.ks.length
              · have p5 : (100 : Int) < (y.ks.length : Int) := by omega
                clear n5
                go_wp2_with fail
                exact HT.out _ HBY.out
              · have p5 : ¬ (100 : Int) < (y.ks.length : Int) := by omega
                clear n5
                go_wp2_with fail
                go_roundg g2
                case measure => omega
                case rel => exact ⟨j + 1, by omega, by first | rfl | simp, HBY.out⟩
end Go.Proofs.YtgdiaflikfdnaaaGreat
/- What was synced stands; while it is dark nothing changes. No program here. -/
namespace Go.Proofs.YtgdiaflikfdnaaaGreat
open Go.RowKit Go.Maps
theorem stepR_set (M : List Ob) (q : Rw) : stepR M q = setC q.name (if q.del then none else some q.data) M := by
  unfold stepR setC
  cases q.del <;> rfl
/-- the store is up and holds it for good, and no write behind names it -/
def Holds (n d : ByteArray) (r : Rf) : Prop := r.down = false ∧ Rising r.good ∧ look n r.good = some d ∧ ∀ q ∈ r.writes, q.name ≠ n
variable {n d : ByteArray} {r : Rf}
theorem fold_other : ∀ (ws : List Rw) (M : List Ob), Rising M → (∀ q ∈ ws, q.name ≠ n) → Rising (ws.foldl stepR M) ∧ look n (ws.foldl stepR M) = look n M
  | [], M, h, _ => ⟨h, rfl⟩
  | q :: ws, M, h, hq => by
    have h1 : Rising (stepR M q) := by rw [stepR_set]; exact rising_setC h
    have h2 : look n (stepR M q) = look n M := by rw [stepR_set]; exact look_setC_other h _ (Ne.symm (hq q (by simp)))
    obtain ⟨k1, k2⟩ := fold_other ws (stepR M q) h1 fun q' hq' => hq q' (by simp [hq'])
    exact ⟨k1, k2.trans h2⟩
theorem Holds.seen (h : Holds n d r) : Rising (seenR r) ∧ look n (seenR r) = some d := by
  obtain ⟨h1, h2, h3, h4⟩ := h
  obtain ⟨k1, k2⟩ := fold_other r.writes r.good h2 h4
  exact ⟨k1, k2.trans h3⟩
theorem Holds.sync (h : Holds n d r) : Holds n d (syncR r).2 := by
  have hs := h.seen
  unfold syncR
  rw [if_neg (by rw [h.1]; decide)]
  exact ⟨h.1, hs.1, hs.2, fun q hq => by cases hq⟩
theorem rcount_keeps (r : Rf) : (rcount r).2.down = r.down ∧ (rcount r).2.good = r.good ∧ (rcount r).2.writes = r.writes := by
  unfold rcount
  split <;> exact ⟨rfl, rfl, rfl⟩
theorem Holds.tried (h : Holds n d r) {n' : ByteArray} (hn : n' ≠ n) (d' : ByteArray) (dl : Bool) : Holds n d (triedR r n' d' dl).2 := by
  obtain ⟨k1, k2, k3⟩ := rcount_keeps r
  obtain ⟨h1, h2, h3, h4⟩ := h
  unfold triedR
  split
  · exact ⟨k1.trans h1, by rw [k2]; exact h2, by rw [k2]; exact h3, by rw [k3]; exact h4⟩
  · refine ⟨k1.trans h1, by show Rising (rcount r).2.good; rw [k2]; exact h2, by show look n (rcount r).2.good = _; rw [k2]; exact h3, fun q hq => ?_⟩
    have hq' : q ∈ (rcount r).2.writes ++ [⟨n', d', dl⟩] := hq
    rw [k3] at hq'
    rcases List.mem_append.1 hq' with h | h
    · exact h4 q h
    · rw [List.mem_singleton] at h; subst h; exact hn
theorem Holds.put (h : Holds n d r) {n' : ByteArray} (hn : n' ≠ n) (d' : ByteArray) : Holds n d (putR r n' d').2 := by
  unfold putR
  split
  · exact h
  split
  · exact h
  split
  · exact h
  · exact h.tried hn d' false
theorem Holds.del (h : Holds n d r) {n' : ByteArray} (hn : n' ≠ n) : Holds n d (delR r n').2 := by
  unfold delR
  split
  · exact h.tried hn _ true
  · exact h
theorem Holds.crash (h : Holds n d r) (ks : List Int) : Holds n d (crashR r ks) := by
  obtain ⟨h1, h2, h3, h4⟩ := h
  have hk : ∀ m, ∀ q ∈ keptR r.writes ks m, q.name ≠ n := fun m => by
    induction m with
    | zero => intro q hq; simp [keptR] at hq
    | succ m ih =>
      intro q hq
      rw [keptR_succ] at hq
      rcases List.mem_append.1 hq with h | h
      · exact ih q h
      · unfold keepR at h
        split at h
        · rename_i q0 k0 e1 e2
          have hq0 := h4 q0 (List.mem_of_getElem? e1)
          split at h
          · rw [List.mem_singleton] at h
            subst h
            unfold cutR
            split <;> exact hq0
          · cases h
        · cases h
  obtain ⟨k1, k2⟩ := fold_other _ r.good h2 (hk r.writes.length)
  exact ⟨h1, k1, k2.trans h3, fun q hq => by cases hq⟩
/-- put and synced: it stands -/
theorem Holds.begin (hr : Rising (seenR r)) (hp : (putR r n d).1 = 0) (hs : (syncR (putR r n d).2).1 = 0) : Holds n d (syncR (putR r n d).2).2 := by
  unfold putR at hp hs ⊢
  split at hp
  · cases hp
  split at hp
  · cases hp
  split at hp
  · cases hp
  rename_i c1 c2 c3
  rw [if_neg c1, if_neg c2, if_neg c3] at hs ⊢
  obtain ⟨k1, k2, k3⟩ := rcount_keeps r
  unfold triedR at hp hs ⊢
  split at hp
  · cases hp
  rename_i c4
  rw [if_neg c4] at hs ⊢
  unfold syncR at hs ⊢
  split at hs
  · cases hs
  rename_i c5
  rw [if_neg c5]
  have e : seenR { (rcount r).2 with writes := (rcount r).2.writes ++ [⟨n, d, false⟩] } = setC n (some d) (seenR r) := by
    unfold seenR
    simp only
    rw [k2, k3, List.foldl_append]
    rfl
  refine ⟨by simpa using c5, ?_, ?_, fun q hq => by cases hq⟩
  · show Rising (seenR _)
    rw [e]; exact rising_setC hr
  · show look n (seenR _) = some d
    rw [e]; exact look_setC_same hr _ _
/-- the world's i-th store holds it -/
def HoldsAt (i : Nat) (n d : ByteArray) (R : Rd) : Prop := ∃ y, R.l[i]? = some y ∧ Holds n d y.rf
variable {i : Nat} {R : Rd}
theorem HoldsAt.set (h : HoldsAt i n d R) {R' : Rd} {j : Nat} {z : Kr} (he : R'.l = R.l.set j z) (hz : j = i → Holds n d z.rf) : HoldsAt i n d R' := by
  obtain ⟨y, h1, h2⟩ := h
  unfold HoldsAt
  rw [he]
  by_cases e : j = i
  · subst e
    exact ⟨z, by rw [List.getElem?_set_self (List.getElem?_eq_some_iff.1 h1).1], hz rfl⟩
  · exact ⟨y, by rw [List.getElem?_set_ne e]; exact h1, h2⟩
theorem HoldsAt.same (h : HoldsAt i n d R) {R' : Rd} (he : R'.l = R.l) : HoldsAt i n d R' := by
  unfold HoldsAt at h ⊢
  rw [he]; exact h
theorem HoldsAt.ask (h : HoldsAt i n d R) (j : Int) {f : Rf → Int × Rf} (hf : j.toNat = i → ∀ r, Holds n d r → Holds n d (f r).2) : HoldsAt i n d (askD R j f).2 := by
  unfold askD
  split
  · split
    · rename_i y hy
      rw [wD_l] at hy
      refine h.set (j := j.toNat) (z := { y with rf := (f y.rf).2 }) (by show (wD R j).l.set _ _ = _; rw [wD_l]) fun e => ?_
      obtain ⟨y', h1, h2⟩ := h
      rw [← e, hy] at h1
      cases h1
      exact hf e _ h2
    · exact h.same (wD_l R j)
  · exact h.same (wD_l R j)
theorem HoldsAt.did (h : HoldsAt i n d R) {x : Sp} (h7 : x.kd = 7 → x.ft.toNat ≠ i ∨ x.ft < 0) (h02 : x.kd = 0 ∨ x.kd = 2 → x.nm ≠ n) : HoldsAt i n d (doD R x) := by
  unfold doD
  split
  · rename_i e; exact h.ask x.i fun _ r hr => hr.put (h02 (.inl e)) x.dt
  split
  · exact h.same (wD_l R x.i)
  split
  · rename_i e; exact h.ask x.i fun _ r hr => hr.del (h02 (.inr e))
  split
  · exact h.same (wD_l R x.i)
  split
  · exact h.ask x.i fun _ r hr => hr.sync
  split
  · refine h.same ?_
    unfold cutD
    split <;> rfl
  split
  · obtain ⟨y, h1, h2⟩ := h
    refine ⟨crashKr x.sv i y, ?_, h2.crash _⟩
    unfold crashD
    simp only [List.getElem?_mapIdx, h1, Option.map_some]
  split
  · rename_i e
    unfold strikeD
    split
    · rename_i hin
      split
      · refine h.set (j := x.ft.toNat) rfl fun e' => ?_
        rcases h7 e with h' | h'
        · exact absurd e' h'
        · omega
      · exact h
    · exact h
  · obtain ⟨y, h1, h2⟩ := h
    refine ⟨clearKr i y, ?_, ?_⟩
    · unfold clearD
      simp only [List.getElem?_mapIdx, h1, Option.map_some]
    · unfold clearKr
      split <;> exact h2
/-- behind a crash it is told -/
theorem HoldsAt.get (h : HoldsAt i n d R) (hR : R.dark = false) (hL : R.left = none) : getD' R (i : Int) n = (d, 0) := by
  obtain ⟨y, h1, h2⟩ := h
  have hi : i < R.l.length := (List.getElem?_eq_some_iff.1 h1).1
  have e1 : eD R (i : Int) = 0 := by
    unfold eD
    rw [if_pos ⟨by omega, by omega⟩]
    unfold callD
    rw [hL, hR]
    rfl
  unfold getD'
  rw [if_pos e1, wD_l, Int.toNat_natCast, h1]
  simp only
  unfold getR
  rw [if_neg (by rw [h2.1]; decide), h2.seen.2]
/-- while the power is gone, a call is counted, and that is all -/
theorem doW_dark {W : Wd} {x : Sp} (hk : x.kd ≤ 4) (hi : 0 ≤ x.i ∧ x.i < (W.l.length : Int)) (hc : W.cut = true) (hl : W.left = 0) : doW W x = { W with calls := W.calls + 1, dark := true } := by
  have e : countW W = { W with calls := W.calls + 1, dark := true } := by
    unfold countW
    rw [hc, hl]
    rfl
  have ea : ∀ f, (askS W x.i f).2 = { W with calls := W.calls + 1, dark := true } := fun f => by
    unfold askS
    rw [if_pos hi, e]
    rfl
  have eb : askW W x.i = { W with calls := W.calls + 1, dark := true } := by
    unfold askW
    rw [if_pos hi, e]
  unfold doW
  split
  · exact ea _
  split
  · exact eb
  split
  · exact ea _
  split
  · exact eb
  split
  · exact ea _
  · omega
end Go.Proofs.YtgdiaflikfdnaaaGreat
/- Two new worlds side by side; what a step keeps. -/
namespace Go.Proofs.YtgdiaflikfdnaaaGreat
open Go.RowKit Go.Maps
theorem DP.born {w w1 w2 : World} {S2 T2 : Nat → Prop} {b c g g2 u2 : Nat} {W : Wd} {R : Rd} (h1 : IsWd w1 S2 b g W) (h2 : ∀ i, S2 i → w.heap.size ≤ i) (hb : Below w.heap.size w w1) (k1 : IsRd w2 T2 c g2 u2 R) (k2 : ∀ i, T2 i → w1.heap.size ≤ i) (hb2 : Below w1.heap.size w1 w2) : DP w2 (fun i => S2 i ∨ T2 i) b c (g, g2, u2) W R ∧ ∀ i, (S2 i ∨ T2 i) → w.heap.size ≤ i := by
  refine ⟨⟨S2, T2, h1.below hb2, k1, fun i hi => .inl hi, fun i hi => .inr hi, fun i hi hT => ?_, fun i hi => ?_⟩, fun i hi => ?_⟩
  · have := h1.bound i hi
    have := k2 i hT
    omega
  · rcases hi with h | h
    · exact Nat.lt_of_lt_of_le (h1.bound i h) hb2.size
    · exact k1.bound i h
  · rcases hi with h | h
    · exact h2 i h
    · exact Nat.le_trans hb.size (k2 i h)
theorem DP.bound {w : World} {S : Nat → Prop} {b c : Nat} {p : Nat × Nat × Nat} {W : Wd} {R : Rd} (h : DP w S b c p W R) : ∀ i, S i → i < w.heap.size := by
  obtain ⟨_, _, _, _, _, _, _, h6⟩ := h
  exact h6
/-- a pair that lies apart stays as it was -/
theorem DP.apart {w w' : World} {S S' : Nat → Prop} {b c b' c' : Nat} {p p' : Nat × Nat × Nat} {W W' : Wd} {R R' : Rd} (h : DP w S b c p W R) (ha : AfterP w w' S' b' c' p' W' R') (hn : ∀ i, S i → ¬ S' i) : DP w' S b c p W R := by
  obtain ⟨_, _, _, ho⟩ := ha
  exact h.only ho hn
theorem countW_calls (W : Wd) : (countW W).calls = W.calls + 1 := by
  unfold countW
  split
  · split <;> rfl
  · rfl
theorem askS_keeps (W : Wd) (i : Int) (f : St → Int × St) : (askS W i f).2.l.length = W.l.length ∧ (askS W i f).2.calls ≤ W.calls + 1 := by
  unfold askS
  split
  · split
    · exact ⟨by rw [countW_l], by rw [countW_calls]; exact Nat.le_refl _⟩
    · split
      · exact ⟨by simp [countW_l], Nat.le_of_eq (countW_calls W)⟩
      · exact ⟨by rw [countW_l], by rw [countW_calls]; exact Nat.le_refl _⟩
  · exact ⟨rfl, Nat.le_succ _⟩
theorem askW_keeps (W : Wd) (i : Int) : (askW W i).l.length = W.l.length ∧ (askW W i).calls ≤ W.calls + 1 := by
  unfold askW
  split
  · exact ⟨by rw [countW_l], by rw [countW_calls]; exact Nat.le_refl _⟩
  · exact ⟨rfl, Nat.le_succ _⟩
theorem doW_keeps (W : Wd) (x : Sp) : (doW W x).l.length = W.l.length ∧ (doW W x).calls ≤ W.calls + 1 := by
  unfold doW
  split
  · exact askS_keeps ..
  split
  · exact askW_keeps ..
  split
  · exact askS_keeps ..
  split
  · exact askW_keeps ..
  split
  · exact askS_keeps ..
  split
  · unfold cutW
    split <;> exact ⟨rfl, Nat.le_succ _⟩
  split
  · exact ⟨by simp [crashW], Nat.le_succ _⟩
  split
  · unfold strikeW
    split
    · split
      · exact ⟨by simp, Nat.le_succ _⟩
      · exact ⟨rfl, Nat.le_succ _⟩
    · exact ⟨rfl, Nat.le_succ _⟩
  · exact ⟨by simp [clearW], Nat.le_succ _⟩
end Go.Proofs.YtgdiaflikfdnaaaGreat
