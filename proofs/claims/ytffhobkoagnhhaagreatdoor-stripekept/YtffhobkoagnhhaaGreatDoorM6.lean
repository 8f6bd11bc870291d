/- Stripe, no program: what faults that forge none leave of a blob that was written, and what is read of it then. -/
import Derived.Test.YtffhobkoagnhhaaGreatDoorL3
namespace Go.Proofs.YtffhobkoagnhhaaGreatDoor
open Go.RowKit Go.Maps
open W
variable {K N : Int} {bl : List Nat} {V : Wd} {m : Nat} {s : St}
theorem may_of (h : C.Mx.mayC K N = true) : 1 ≤ K ∧ K ≤ N ∧ N ≤ 12 := by
  unfold C.Mx.mayC at h
  simp only [decide_eq_true_eq] at h
  omega
/-- what such faults leave of a store that held its shard -/
structure Left (K N : Int) (bl : List Nat) (m : Nat) (s : St) : Prop where
  wr : s.writes = []
  seen : s.seen = [] ∨ ∃ d, s.seen = [(nmS (dig bl) m, d)] ∧ (d = shD K N bl m ∨ H.rdOk (nmS (dig bl) m) d = false)
  fit : Fit 100 s
theorem fit_one {s : St} (hw : s.writes = []) (h1 : s.seen.length ≤ 1) (h2 : ∀ p ∈ s.seen, p.1.size ≤ 80) (h3 : ∀ p ∈ s.seen, p.2.size ≤ 65536) (h4 : ∀ k, s.refuse = some k → k < 9223372036854775808) (h5 : ∀ k, s.room = some k → k < 9223372036854775808) : Fit 100 s :=
  have e : ∀ q ∈ s.writes, False := fun q hq => by rw [hw] at hq; cases hq
  ⟨Nat.le_trans h1 (by decide), by rw [hw]; exact Nat.zero_le _, h2, h3, fun q hq => (e q hq).elim, fun q hq => (e q hq).elim, fun q hq => (e q hq).elim, h4, h5⟩
theorem bent_size (d : ByteArray) (a y : Nat) : (bent d a y).size = d.size := by
  unfold bent
  show (W.ofBs _).data.size = _
  unfold W.ofBs
  rw [List.size_toArray, List.length_map, List.length_set, W.bs_length]
theorem drop_one (n d : ByteArray) : drop n [(n, d)] = [] := by simp [drop]
theorem put_one (n d e : ByteArray) : W.put (n, e) [(n, d)] = [(n, e)] := by
  unfold W.put
  rw [drop_one]
  rfl
theorem stk_one (p : Ob) (n : Nat) : stk [p] n = some p := by
  unfold stk
  rw [show ([p] : List Ob).length = 1 from rfl, Nat.mod_one]
  rfl
/-- a fault that makes of no object a sound one that it was not -/
theorem Left.strike (h : Left K N bl m s) (k n a c : Int) (hn : n < 9223372036854775808) (hno : ∀ p ∈ (strikeS s k n a c).2.seen, H.rdOk p.1 p.2 = true → p ∈ s.seen) : Left K N bl m (strikeS s k n a c).2 := by
  obtain ⟨hw, hs, hf⟩ := h
  have h1 : s.seen.length ≤ 1 := by
    rcases hs with e | ⟨d, e, _⟩ <;> rw [e] <;> simp
  unfold strikeS at hno ⊢
  split
  · exact ⟨hw, hs, hf⟩
  · rename_i hb
    rw [if_neg hb] at hno
    simp only at hno ⊢
    split at hno
    · exact ⟨rfl, .inl rfl, fit_one rfl (by simp) (fun p hp => by cases hp) (fun p hp => by cases hp) hf.refuse hf.room⟩
    · clear hno
      unfold loseS
      rcases hs with e | ⟨d, e, hd⟩
      · rw [stk_none (by rw [e]; rfl)]
        exact ⟨rfl, .inl e, fit_one rfl h1 hf.names hf.datas hf.refuse hf.room⟩
      · have e2 : stk s.seen n.toNat = some (nmS (dig bl) m, d) := by rw [e, stk_one]
        rw [e2]
        simp only
        rw [e, drop_one]
        exact ⟨rfl, .inl rfl, fit_one rfl (by simp) (fun p hp => by cases hp) (fun p hp => by cases hp) hf.refuse hf.room⟩
    · unfold bendS at hno ⊢
      rcases hs with e | ⟨d, e, hd⟩
      · rw [stk_none (by rw [e]; rfl)]
        exact ⟨rfl, .inl e, fit_one rfl h1 hf.names hf.datas hf.refuse hf.room⟩
      · have e2 : stk s.seen n.toNat = some (nmS (dig bl) m, d) := by rw [e, stk_one]
        rw [e2] at hno ⊢
        simp only at hno ⊢
        split
        · exact ⟨rfl, .inr ⟨d, e, hd⟩, fit_one rfl h1 hf.names hf.datas hf.refuse hf.room⟩
        · rename_i hz
          rw [if_neg hz] at hno
          simp only at hno
          rw [e, put_one] at hno ⊢
          have hx := hno _ (List.mem_singleton.2 rfl)
          have hsz := hf.datas (nmS (dig bl) m, d) (by rw [e]; exact List.mem_singleton.2 rfl)
          have hnm := hf.names (nmS (dig bl) m, d) (by rw [e]; exact List.mem_singleton.2 rfl)
          refine ⟨rfl, .inr ⟨bent d a.toNat c.toNat, rfl, ?_⟩, fit_one rfl (by simp) (fun p hp => ?_) (fun p hp => ?_) hf.refuse hf.room⟩
          · cases hr : H.rdOk (nmS (dig bl) m) (bent d a.toNat c.toNat) with
            | false => exact .inr rfl
            | true =>
              have := List.mem_singleton.1 (hx hr)
              rw [Prod.mk.injEq] at this
              rw [this.2] at hr ⊢
              rcases hd with hd | hd
              · exact .inl hd
              · rw [hr] at hd; cases hd
          · rw [List.mem_singleton.1 hp]; exact hnm
          · rw [List.mem_singleton.1 hp]
            show (bent d a.toNat c.toNat).size ≤ 65536
            rw [bent_size]; exact hsz
    · exact ⟨hw, hs, fit_one hw h1 hf.names hf.datas hf.refuse hf.room⟩
    · exact ⟨hw, hs, fit_one hw h1 hf.names hf.datas hf.refuse hf.room⟩
    · exact ⟨hw, hs, fit_one hw h1 hf.names hf.datas (fun k hk => by cases hk; omega) hf.room⟩
    · exact ⟨hw, hs, fit_one hw h1 hf.names hf.datas hf.refuse (fun k hk => by cases hk; omega)⟩
/-- nothing is under way: the power's going changes nothing -/
theorem Left.crash (h : Left K N bl m s) (ks : List Int) : crashS s ks = s := by
  obtain ⟨hw, _, _⟩ := h
  unfold crashS
  rw [hw]
  show ({ s with writes := [], seen := s.seen } : St) = s
  cases s
  simp only at hw
  rw [hw]
theorem held_sizes (hm : C.Mx.mayC K N = true) (hb : bl.length ≤ 32768) (hmn : (m : Int) < N) : (nmS (dig bl) m).size ≤ 80 ∧ (shD K N bl m).size ≤ 65536 := by
  have hk := may_of hm
  have := badName_not (K := K) (N := N) (bl := bl) (m := m) (by rw [dig_len]) hb hk.1 (by omega)
  unfold badName at this
  simp only [Bool.or_eq_false_iff, decide_eq_false_iff_not] at this
  omega
theorem Left.held (hm : C.Mx.mayC K N = true) (hb : bl.length ≤ 32768) (hmn : (m : Int) < N) : Left K N bl m (held K N bl m) := by
  obtain ⟨h1, h2⟩ := held_sizes (bl := bl) hm hb hmn
  refine ⟨rfl, .inr ⟨_, rfl, .inl rfl⟩, fit_one rfl (by simp [Proofs.YtffhobkoagnhhaaGreatDoor.held]) (fun p hp => ?_) (fun p hp => ?_) (fun k hk => by cases hk) (fun k hk => by cases hk)⟩
  · rw [List.mem_singleton.1 hp]; exact h1
  · rw [List.mem_singleton.1 hp]; exact h2
/-- does a store answer, with its one object as it was? -/
def isLeft (was : ByteArray) (s : St) : Bool := !s.down && (decide (s.seen.length = 1) && decide ((s.seen.getD 0 (⟨#[]⟩, ⟨#[]⟩)).2 = was))
theorem look_one (n d : ByteArray) : W.look n [(n, d)] = some d := by simp [W.look]
theorem Left.told (h : Left K N bl m s) (hm : C.Mx.mayC K N = true) (hb : bl.length ≤ 32768) (hmn : (m : Int) < N) : tells K N (dig bl) m s = if isLeft (shD K N bl m) s then (C.ofBs (C.payL K.toNat bl m), true) else (⟨#[]⟩, false) := by
  obtain ⟨hw, hs, hf⟩ := h
  unfold isLeft
  cases hd : s.down with
  | true =>
    rw [if_neg (by simp)]
    exact tells_none (by unfold W.get; rw [hd]; rfl)
  | false =>
    rcases hs with e | ⟨d, e, hx⟩
    · rw [if_neg (by rw [e]; simp)]
      refine tells_none ?_
      unfold W.get
      rw [hd, e]
      rfl
    · have hg : W.get s (nmS (dig bl) m) = (d, 0) := by
        unfold W.get
        rw [hd, e, look_one]
        rfl
      by_cases hds : d = shD K N bl m
      · rw [if_pos (by rw [e]; simp [hds])]
        exact tells_held hm hb hmn (by rw [hg, hds])
      · rw [if_neg (by rw [e]; simp [hds])]
        rcases hx with hx | hx
        · exact absurd hx hds
        · unfold tells snd
          rw [hg, if_neg (fun h => by rw [hx] at h; exact absurd h.1 (by decide))]
theorem sounds_count (d : ByteArray) : ∀ (l : List Kp) (i : Nat), (sounds K N d i l).length = (l.zipIdx i).countP fun p => (tells K N d p.2 p.1.st).2
  | [], i => rfl
  | x :: r, i => by
    unfold sounds
    rw [List.zipIdx_cons, List.countP_cons, List.length_append, sounds_count d r (i + 1)]
    cases ht : (tells K N d i x.st).2 <;> simp [Nat.add_comm]
/-- how many of the first k stores answer with their object as it was -/
def leftN (K N : Int) (bl : List Nat) (l : List Kp) (k : Nat) : Nat := ((l.zipIdx).take k).countP fun p => isLeft (shD K N bl p.2) p.1.st
theorem leftN_succ {l : List Kp} {k : Nat} {x : Kp} (hx : l[k]? = some x) : leftN K N bl l (k + 1) = leftN K N bl l k + (if isLeft (shD K N bl k) x.st then 1 else 0) := by
  unfold leftN
  have hz : l.zipIdx[k]? = some (x, k) := by rw [List.getElem?_zipIdx, hx]; simp
  rw [List.take_add_one, hz, List.countP_append]
  simp [List.countP_cons]
theorem leftN_le (l : List Kp) (k : Nat) : leftN K N bl l k ≤ k := by
  unfold leftN
  refine Nat.le_trans List.countP_le_length ?_
  rw [List.length_take]
  exact Nat.min_le_left _ _
/-- what is read of stores that such faults left -/
theorem left_read (hl : Lit V) (hm : C.Mx.mayC K N = true) (hN : N = (V.l.length : Int)) (hb : bl.length ≤ 32768) (hlt : ∀ x ∈ bl, x < 256) (hh : ∀ (m : Nat) (x : Kp), V.l[m]? = some x → Left K N bl m x.st) {o : ByteArray} {z : Int} {V' : Wd} (h : ReadIs V K N (dig bl) o z V') : (K ≤ (leftN K N bl V.l V.l.length : Int) ∧ o = C.ofBs bl ∧ z = 0) ∨ ((leftN K N bl V.l V.l.length : Int) < K ∧ z = 54) := by
  have ht : ∀ (m : Nat) (x : Kp), V.l[m]? = some x → tells K N (dig bl) m x.st = if isLeft (shD K N bl m) x.st then (C.ofBs (C.payL K.toNat bl m), true) else (⟨#[]⟩, false) := fun m x hx => (hh m x hx).told hm hb (by have := (List.getElem?_eq_some_iff.1 hx).1; omega)
  have hc : (sounds K N (dig bl) 0 V.l).length = leftN K N bl V.l V.l.length := by
    rw [sounds_count]
    unfold leftN
    rw [List.take_of_length_le (by simp)]
    refine List.countP_congr fun p hp => ?_
    obtain ⟨x, m⟩ := p
    have hx : V.l[m]? = some x := by
      have := List.mem_zipIdx' hp
      exact List.getElem?_eq_some_iff.2 ⟨this.1, this.2.symm⟩
    show (tells K N (dig bl) m x.st).2 = true ↔ isLeft (shD K N bl m) x.st = true
    rw [ht m x hx]
    cases isLeft (shD K N bl m) x.st <;> simp
  have := (read_lit hl hm hN hb hlt (fun m x hx h2 => by
    rw [ht m x hx] at h2 ⊢
    cases hi : isLeft (shD K N bl m) x.st with
    | true => rfl
    | false => rw [hi] at h2; simp at h2) h).2
  rw [hc] at this
  rcases this with ⟨a, b, c⟩ | ⟨a, _, c⟩
  · exact .inl ⟨a, b, c⟩
  · exact .inr ⟨a, c⟩
end Go.Proofs.YtffhobkoagnhhaaGreatDoor
/- Stripe, no program: a write that is cut off, whatever survives, takes nothing away of what stood for good. -/
namespace Go.Proofs.YtffhobkoagnhhaaGreatDoor
open Go.RowKit Go.Maps
open W
variable {K N : Int} {bl : List Nat} {V : Wd} {m : Nat} {s : St} {G : Nat → Prop}
/-- put, not synced yet -/
def pend (K N : Int) (bl : List Nat) (m : Nat) : St := ⟨[(nmS (dig bl) m, shD K N bl m)], [⟨nmS (dig bl) m, none, some (shD K N bl m)⟩], false, none, none, true⟩
/-- a store while a blob is written again: as it was, or (those outside G) empty, or put -/
def Mid (K N : Int) (bl : List Nat) (G : Nat → Prop) (m : Nat) (s : St) : Prop := s = held K N bl m ∨ (¬ G m ∧ (s = st0 ∨ s = pend K N bl m))
theorem be4_inj {a c : Nat} (ha : a < 4294967296) (hc : c < 4294967296) (h : H.be4 a = H.be4 c) : a = c := by
  unfold H.be4 at h
  simp only [List.cons.injEq, and_true] at h
  omega
theorem shD_is (hm : C.Mx.mayC K N = true) (hmn : (m : Int) < N) : H.IsD K.toNat N.toNat m (dig bl) (C.ofBs (C.payL K.toNat bl m)) (shD K N bl m) := by
  obtain ⟨h1, h2, h3⟩ := may_of hm
  refine ⟨by omega, by omega, by omega, dig_len bl, ?_⟩
  unfold shD
  rw [show H.bs (C.ofBs (C.payL K.toNat bl m)) = C.payL K.toNat bl m from H.bs_ofBs _ (C.payL_lt _ _ _)]
/-- fewer bytes than all are no shard's -/
theorem rd_torn (hm : C.Mx.mayC K N = true) (hb : bl.length ≤ 32768) (hmn : (m : Int) < N) {k : Nat} (hk : k < (shD K N bl m).size) (a : ByteArray) : H.rdOk a ((shD K N bl m).extract 0 k) = false := by
  cases h : H.rdOk a ((shD K N bl m).extract 0 k) with
  | false => rfl
  | true =>
    exfalso
    have hs : ((shD K N bl m).extract 0 k).size = k := by
      rw [ByteArray.size_extract]; omega
    obtain ⟨hI, hp⟩ := H.rd_isD h
    have h2 := hI.size
    have h3 := hI.count
    have h4 := (shD_is (bl := bl) hm hmn).count
    have h5 := (shD_is (bl := bl) hm hmn).size
    have h6 := (held_sizes (bl := bl) hm hb hmn).2
    rw [hs] at h2
    have h7 : (H.bs ((shD K N bl m).extract 0 k)).take 11 = (H.bs (shD K N bl m)).take 11 := by
      rw [H.bs_extract, List.drop_zero, List.take_take, Nat.min_eq_left (by omega)]
    rw [h7, h4] at h3
    have := be4_inj (by omega) (by omega) h3
    omega
theorem setC_none_one (n d : ByteArray) : setC n none [(n, d)] = [] := by
  show drop n [(n, d)] = []
  exact drop_one n d
/-- what the power's going leaves -/
theorem Mid.crash (h : Mid K N bl G m s) (hm : C.Mx.mayC K N = true) (hb : bl.length ≤ 32768) (hmn : (m : Int) < N) (ks : List Int) : Left K N bl m (crashS s ks) ∧ (G m → crashS s ks = held K N bl m) := by
  rcases h with h | ⟨hG, h | h⟩
  · have hL := Left.held (bl := bl) hm hb hmn
    rw [h, hL.crash]
    exact ⟨hL, fun _ => rfl⟩
  · refine ⟨?_, fun h => absurd h hG⟩
    have : crashS s ks = st0 := by rw [h]; rfl
    rw [this]
    exact ⟨rfl, .inl rfl, fit_one rfl (by simp [st0]) (fun p hp => by cases hp) (fun p hp => by cases hp) (fun k hk => by cases hk) (fun k hk => by cases hk)⟩
  · refine ⟨?_, fun h => absurd h hG⟩
    obtain ⟨z1, z2⟩ := held_sizes (bl := bl) hm hb hmn
    have hc : crashS s ks = ⟨stepK [⟨nmS (dig bl) m, none, some (shD K N bl m)⟩] ks [] 0, [], false, none, none, true⟩ := by
      rw [h]
      unfold crashS pend
      simp only [List.reverse_singleton, List.length_singleton]
      unfold undo
      simp only [List.foldl_cons, List.foldl_nil]
      rw [setC_none_one]
      rfl
    rw [hc]
    unfold stepK
    simp only [List.getElem?_cons_zero]
    cases hk : ks[0]? with
    | none => exact ⟨rfl, .inl rfl, fit_one rfl (by simp) (fun p hp => by cases hp) (fun p hp => by cases hp) (fun k hk => by cases hk) (fun k hk => by cases hk)⟩
    | some k =>
      simp only
      by_cases h0 : 0 ≤ k
      · rw [if_pos h0]
        have hs : setC (nmS (dig bl) m) (W.begun (some (shD K N bl m)) k.toNat) [] = [(nmS (dig bl) m, if k.toNat < (shD K N bl m).size then (shD K N bl m).extract 0 k.toNat else shD K N bl m)] := rfl
        rw [hs]
        have hz : (if k.toNat < (shD K N bl m).size then (shD K N bl m).extract 0 k.toNat else shD K N bl m).size ≤ 65536 := by
          split
          · rw [ByteArray.size_extract]; omega
          · exact z2
        refine ⟨rfl, .inr ⟨_, rfl, ?_⟩, fit_one rfl (by simp) (fun p hp => ?_) (fun p hp => ?_) (fun k hk => by cases hk) (fun k hk => by cases hk)⟩
        · by_cases hkk : k.toNat < (shD K N bl m).size
          · rw [if_pos hkk]
            exact .inr (rd_torn hm hb hmn hkk _)
          · rw [if_neg hkk]
            exact .inl rfl
        · rw [List.mem_singleton.1 hp]; exact z1
        · rw [List.mem_singleton.1 hp]; exact hz
      · rw [if_neg h0]
        exact ⟨rfl, .inl rfl, fit_one rfl (by simp) (fun p hp => by cases hp) (fun p hp => by cases hp) (fun k hk => by cases hk) (fun k hk => by cases hk)⟩
/-- what asking comes to, if the power stays till its end -/
theorem asked_st (os : List Ob) (d : ByteArray) : ∀ (j i : Nat) (V : Wd) (st : List Nat), i + j = V.l.length → st.length = V.l.length → (askG d (anx os d) j i V st).1 = 0 → (askG d (anx os d) j i V st).2.2.length = st.length ∧ ∀ m x, V.l[m]? = some x → (askG d (anx os d) j i V st).2.2.getD m 0 = if i ≤ m then standOf os d m x.st (st.getD m 0) else st.getD m 0
  | 0, i, V, st, hi, _, _ => ⟨rfl, fun m x hx => by
      have := (List.getElem?_eq_some_iff.1 hx).1
      rw [if_neg (by omega)]
      rfl⟩
  | j + 1, i, V, st, hi, hs, h0 => by
    obtain ⟨x, hx⟩ : ∃ x, V.l[i]? = some x := ⟨_, List.getElem?_eq_getElem (by omega)⟩
    rw [askG_succ] at h0 ⊢
    by_cases h56 : (getW V (i : Int) (nmS d i)).2 = 56
    · rw [if_pos h56] at h0
      exact absurd h0 (by simp)
    · rw [if_neg h56] at h0 ⊢
      have hg : getW V (i : Int) (nmS d i) = W.get x.st (nmS d i) := by
        unfold getW at h56 ⊢
        rw [if_pos (by omega)] at h56 ⊢
        by_cases hd : (countW V).dark = true
        · rw [if_pos hd] at h56; exact absurd rfl h56
        · rw [if_neg hd]
          rw [(countW_small V).2.2, Int.toNat_natCast, hx]
      have ha : (anx os d st i (getW V (i : Int) (nmS d i)).1 (getW V (i : Int) (nmS d i)).2).1 = true := rfl
      rw [ha, if_pos rfl] at h0 ⊢
      have hl : (askW V (i : Int)).l = V.l := (askW_small V (i : Int)).2.2
      have hsl : (anx os d st i (getW V (i : Int) (nmS d i)).1 (getW V (i : Int) (nmS d i)).2).2.length = st.length := by
        unfold anx
        simp only
        split
        · rw [List.length_set]
        · split
          · rfl
          · rw [List.length_set]
      obtain ⟨k2, k3⟩ := asked_st os d j (i + 1) (askW V (i : Int)) _ (by rw [hl]; omega) (by rw [hsl, hl]; exact hs) h0
      refine ⟨by rw [k2, hsl], fun m y hy => ?_⟩
      have hm := (List.getElem?_eq_some_iff.1 hy).1
      rw [k3 m y (by rw [hl]; exact hy)]
      have hst : (anx os d st i (getW V (i : Int) (nmS d i)).1 (getW V (i : Int) (nmS d i)).2).2.getD m 0 = if m = i then standOf os d i x.st (st.getD i 0) else st.getD m 0 := by
        rw [hg]
        unfold anx standOf
        simp only
        split
        · rw [getD_set]
          by_cases e : m = i
          · rw [if_pos ⟨e, by omega⟩, if_pos e]
          · rw [if_neg (fun h => e h.1), if_neg e]
        · split
          · by_cases e : m = i
            · rw [if_pos e, e]
            · rw [if_neg e]
          · rw [getD_set]
            by_cases e : m = i
            · rw [if_pos ⟨e, by omega⟩, if_pos e]
            · rw [if_neg (fun h => e h.1), if_neg e]
      rw [hst]
      by_cases e : m = i
      · subst e
        rw [hx] at hy
        cases hy
        rw [if_neg (by omega), if_pos rfl, if_pos (Nat.le_refl _)]
      · rw [if_neg e]
        by_cases e2 : i + 1 ≤ m
        · rw [if_pos e2, if_pos (by omega)]
        · rw [if_neg e2, if_neg (by omega)]
theorem askG_l {σ : Type} (d : ByteArray) (nx : σ → Nat → ByteArray → Int → Bool × σ) : ∀ (j i : Nat) (V : Wd) (s : σ), (askG d nx j i V s).2.1.l = V.l
  | 0, _, _, _ => rfl
  | j + 1, i, V, s => by
    have hl : (askW V (i : Int)).l = V.l := (askW_small V (i : Int)).2.2
    rw [askG_succ]
    split
    · exact hl
    · split
      · rw [askG_l d nx j (i + 1) (askW V (i : Int)) _, hl]
      · exact hl
theorem eachG_inv {I : Wd → List Nat → Prop} (so : Nat) (dof : Wd → List Nat → Nat → Int × Wd × List Nat) (h : ∀ V st i, I V st → st.getD i 0 = so → I (dof V st i).2.1 (dof V st i).2.2) : ∀ (j i dn : Nat) (V : Wd) (st : List Nat), I V st → I (eachG so dof j i dn V st).2.1 (eachG so dof j i dn V st).2.2
  | 0, _, _, _, _, hI => hI
  | j + 1, i, dn, V, st, hI => by
    rw [eachG_succ]
    by_cases hs : st.getD i 0 = so
    · rw [if_pos hs]
      have hI2 := h V st i hI hs
      split
      · exact eachG_inv so dof h j _ _ _ _ hI2
      · split
        · exact hI2
        · exact eachG_inv so dof h j _ _ _ _ hI2
    · rw [if_neg hs]
      exact eachG_inv so dof h j _ _ _ _ hI
/-- while they are put -/
def MidP (K N : Int) (bl : List Nat) (G : Nat → Prop) (n : Nat) (V : Wd) (st : List Nat) : Prop := V.l.length = n ∧ st.length = n ∧ ∀ (m : Nat) (x : Kp), V.l[m]? = some x → (x.st = held K N bl m ∧ st.getD m 0 = 2) ∨ (¬ G m ∧ (x.st = st0 ∨ (x.st = pend K N bl m ∧ st.getD m 0 = 2)))
def MidS (K N : Int) (bl : List Nat) (G : Nat → Prop) (n : Nat) (V : Wd) : Prop := V.l.length = n ∧ ∀ (m : Nat) (x : Kp), V.l[m]? = some x → Mid K N bl G m x.st
theorem askS_cases (V : Wd) (i : Nat) (f : St → Int × St) : (∃ e, e ≠ 0 ∧ (askS V (i : Int) f).1 = e ∧ (askS V (i : Int) f).2.l = V.l) ∨ ∃ x, V.l[i]? = some x ∧ (askS V (i : Int) f).1 = (f x.st).1 ∧ (askS V (i : Int) f).2.l = V.l.set i { x with st := (f x.st).2 } := by
  by_cases hi : 0 ≤ (i : Int) ∧ (i : Int) < (V.l.length : Int)
  · cases hd : (countW V).dark with
    | true =>
      rw [askS_dark hi hd]
      exact .inl ⟨56, by decide, rfl, (countW_small V).2.2⟩
    | false =>
      obtain ⟨x, h1, _, h3⟩ := askS_does (f := f) hi hd
      rw [(countW_small V).2.2, Int.toNat_natCast] at h1
      rw [h3]
      refine .inr ⟨x, h1, rfl, ?_⟩
      show (countW V).l.set (i : Int).toNat _ = _
      rw [(countW_small V).2.2, Int.toNat_natCast]
  · rw [askS_no hi]
    exact .inl ⟨1, by decide, rfl, rfl⟩
theorem MidP.put (hm : C.Mx.mayC K N = true) (hb : bl.length ≤ 32768) {n : Nat} (hN : N = (n : Int)) {st : List Nat} (h : MidP K N bl G n V st) {i : Nat} (hi : st.getD i 0 = 1) : MidP K N bl G n (dPut (obsOf K N bl) V st i).2.1 (dPut (obsOf K N bl) V st i).2.2 := by
  obtain ⟨h1, h2, h3⟩ := h
  have hk := may_of hm
  unfold dPut
  simp only
  rcases askS_cases V i (fun s => putS s ((obsOf K N bl).getD i (⟨#[]⟩, ⟨#[]⟩)).1 ((obsOf K N bl).getD i (⟨#[]⟩, ⟨#[]⟩)).2) with ⟨e, he, a1, a2⟩ | ⟨x, hx, a1, a2⟩
  · rw [a1, if_neg he]
    exact ⟨by rw [a2]; exact h1, h2, fun m x hx => h3 m x (by rw [← a2]; exact hx)⟩
  · have hil := (List.getElem?_eq_some_iff.1 hx).1
    have hx0 : x.st = st0 ∧ ¬ G i := by
      rcases h3 i x hx with ⟨_, e⟩ | ⟨hG, e | ⟨_, e⟩⟩
      · omega
      · exact ⟨e, hG⟩
      · omega
    have hob : (obsOf K N bl).getD i (⟨#[]⟩, ⟨#[]⟩) = (nmS (dig bl) i, shD K N bl i) := obs_is hm hb (by omega)
    have hp : putS x.st ((obsOf K N bl).getD i (⟨#[]⟩, ⟨#[]⟩)).1 ((obsOf K N bl).getD i (⟨#[]⟩, ⟨#[]⟩)).2 = (0, pend K N bl i) := by
      rw [hob, hx0.1, put_free ⟨rfl, rfl, rfl⟩ (badName_not (dig_len bl) hb hk.1 (by omega))]
      rfl
    rw [hp] at a1 a2
    rw [a1, if_pos rfl]
    refine ⟨by rw [a2, List.length_set]; exact h1, by rw [List.length_set]; exact h2, fun m y hy => ?_⟩
    rw [a2] at hy
    by_cases e : i = m
    · subst e
      rw [List.getElem?_set_self hil] at hy
      cases hy
      exact .inr ⟨hx0.2, .inr ⟨rfl, by rw [getD_set, if_pos ⟨rfl, by omega⟩]⟩⟩
    · rw [List.getElem?_set_ne e] at hy
      rw [getD_set, if_neg (fun h => e h.1.symm)]
      exact h3 m y hy
theorem MidS.sync {n : Nat} (h : MidS K N bl G n V) (i : Nat) : MidS K N bl G n (askS V (i : Int) W.sync).2 := by
  obtain ⟨h1, h2⟩ := h
  rcases askS_cases V i W.sync with ⟨_, _, _, a2⟩ | ⟨x, hx, _, a2⟩
  · exact ⟨by rw [a2]; exact h1, fun m x hx => h2 m x (by rw [← a2]; exact hx)⟩
  · have hil := (List.getElem?_eq_some_iff.1 hx).1
    refine ⟨by rw [a2, List.length_set]; exact h1, fun m y hy => ?_⟩
    rw [a2] at hy
    by_cases e : i = m
    · subst e
      rw [List.getElem?_set_self hil] at hy
      cases hy
      show Mid K N bl G i (W.sync x.st).2
      rcases h2 i x hx with e | ⟨hG, e | e⟩
      · rw [e]; exact .inl rfl
      · rw [e]; exact .inr ⟨hG, .inl rfl⟩
      · rw [e]; exact .inl rfl
    · rw [List.getElem?_set_ne e] at hy
      exact h2 m y hy
theorem MidP.mid {n : Nat} {st : List Nat} (h : MidP K N bl G n V st) : MidS K N bl G n V := ⟨h.1, fun m x hx => by
  rcases h.2.2 m x hx with ⟨e, _⟩ | ⟨hG, e | ⟨e, _⟩⟩
  · exact .inl e
  · exact .inr ⟨hG, .inl e⟩
  · exact .inr ⟨hG, .inr e⟩⟩
/-- a write, wherever it is cut off -/
theorem write_mid (hm : C.Mx.mayC K N = true) (hN : N = (V.l.length : Int)) (hb : bl.length ≤ 32768) (h : ∀ (m : Nat) (x : Kp), V.l[m]? = some x → x.st = held K N bl m ∨ (¬ G m ∧ x.st = st0)) : MidS K N bl G V.l.length (wrG V K N bl).2 := by
  have hk := may_of hm
  have hF : fitE V K N = 0 := by unfold fitE; rw [if_pos ⟨hm, hN⟩]
  have hE : C.errE K N bl = 0 := by unfold C.errE; rw [if_pos hm, if_pos hb]
  have hol : (obsOf K N bl).length = V.l.length := by
    have hok : C.okE K N bl = true := by unfold C.okE; rw [hm, decide_eq_true hb]; rfl
    unfold obsOf C.ansE
    rw [objsOf_len, if_pos hok, C.encL_length]
    omega
  have hob : ∀ m, m < V.l.length → (obsOf K N bl).getD m (⟨#[]⟩, ⟨#[]⟩) = (nmS (dig bl) m, shD K N bl m) := fun m h => obs_is hm hb (by omega)
  have h0 : MidS K N bl G V.l.length V := ⟨rfl, fun m x hx => by
    rcases h m x hx with e | ⟨hG, e⟩
    · exact .inl e
    · exact .inr ⟨hG, .inl e⟩⟩
  have hW : MidS K N bl G V.l.length (writG V K (obsOf K N bl) (dig bl)).2 := by
    have hAl : (askedG V (obsOf K N bl) (dig bl)).2.1.l = V.l := askG_l _ _ _ _ _ _
    have hA : MidS K N bl G V.l.length (askedG V (obsOf K N bl) (dig bl)).2.1 := ⟨by rw [hAl], fun m x hx => h0.2 m x (by rw [← hAl]; exact hx)⟩
    unfold writG
    by_cases ha : (askedG V (obsOf K N bl) (dig bl)).1 = 0
    · rw [if_neg (by rw [ha]; simp)]
      obtain ⟨a2, a3⟩ := asked_st (obsOf K N bl) (dig bl) V.l.length 0 V (List.replicate (obsOf K N bl).length 0) (by omega) (by rw [List.length_replicate]; exact hol) ha
      have hP : MidP K N bl G V.l.length (askedG V (obsOf K N bl) (dig bl)).2.1 (askedG V (obsOf K N bl) (dig bl)).2.2 := by
        refine ⟨by rw [hAl], by rw [show (askedG V (obsOf K N bl) (dig bl)).2.2.length = _ from a2, List.length_replicate, hol], fun m x hx => ?_⟩
        rw [hAl] at hx
        have hml := (List.getElem?_eq_some_iff.1 hx).1
        rcases h m x hx with e | ⟨hG, e⟩
        · refine .inl ⟨e, ?_⟩
          refine (a3 m x hx).trans ?_
          rw [if_pos (Nat.zero_le _), e]
          unfold standOf
          have hg : W.get (held K N bl m) (nmS (dig bl) m) = (shD K N bl m, 0) := by
            unfold W.get held
            simp only
            rw [look_one]
            rfl
          rw [hg, hob m hml, if_pos rfl]
        · exact .inr ⟨hG, .inl e⟩
      generalize (askedG V (obsOf K N bl) (dig bl)).2.1 = V1 at *
      generalize (askedG V (obsOf K N bl) (dig bl)).2.2 = s1 at *
      have hP2 := eachG_inv (I := MidP K N bl G V.l.length) 1 (dPut (obsOf K N bl)) (fun V' st i hI hi => MidP.put hm hb hN hI hi) (obsOf K N bl).length 0 0 V1 s1 hP
      unfold writP
      split
      · exact hP.mid
      · split
        · exact hP2.mid
        · split
          · exact hP2.mid
          · exact eachG_inv (I := fun V' _ => MidS K N bl G V.l.length V') 2 dSync (fun V' st i hI _ => MidS.sync hI i) _ 0 0 _ _ hP2.mid
    · rw [if_pos ha]
      exact hA
  unfold wrG
  rw [hF, hE, if_neg (by simp), if_neg (by simp)]
  split
  · exact hW
  · exact hW
/-- how many of the first k were to be lost -/
def goneN (lose : List Bool) (k : Nat) : Nat := (lose.take k).countP fun b => b
theorem goneN_succ (lose : List Bool) (k : Nat) : goneN lose (k + 1) = goneN lose k + (if lose.getD k false then 1 else 0) := by
  unfold goneN
  rw [List.take_add_one, List.countP_append, List.getD_eq_getElem?_getD]
  cases lose[k]? with
  | none => rfl
  | some b => cases b <;> rfl
theorem left_held : isLeft (shD K N bl m) (held K N bl m) = true := by
  unfold isLeft held
  simp
/-- those that were not lost are left -/
theorem left_gone (lose : List Bool) {l : List Kp} (h : ∀ (m : Nat) (x : Kp), l[m]? = some x → lose.getD m false = false → x.st = held K N bl m) : ∀ k, k ≤ l.length → k ≤ leftN K N bl l k + goneN lose k
  | 0, _ => Nat.zero_le _
  | k + 1, hk => by
    obtain ⟨x, hx⟩ : ∃ x, l[k]? = some x := ⟨_, List.getElem?_eq_getElem (by omega)⟩
    have := left_gone lose h k (by omega)
    rw [leftN_succ hx, goneN_succ]
    cases hb : lose.getD k false with
    | true => simp; omega
    | false =>
      rw [h k x hx hb, left_held]
      simp; omega
end Go.Proofs.YtffhobkoagnhhaaGreatDoor
