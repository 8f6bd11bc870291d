/- What Make's bytes tell, and what bytes that Read takes must be. No program in it. -/
import Derived.Test.YtffhobkoagnhhaaGreatDoorHSRead
import Derived.Test.YtffhobkoagnhhaaGreatDoorM2
namespace Go.Proofs.YtffhobkoagnhhaaGreatDoor.H
open Go.RowKit
theorem pre_length (k n j : Nat) (d p : List Nat) : (pre k n j d p).length = 11 + d.length + p.length := by
  unfold pre be4; simp; omega
theorem pre_lt {k n j : Nat} {d p : List Nat} (hk : k < 256) (hn : n < 256) (hj : j < 256) (hd : ∀ x ∈ d, x < 256) (hp : ∀ x ∈ p, x < 256) : ∀ x ∈ pre k n j d p, x < 256 := by
  intro x hx
  unfold pre be4 at hx
  simp only [List.mem_append, List.mem_cons, List.not_mem_nil, or_false] at hx
  rcases hx with (((hx | hx) | hx) | hx) | hx
  · omega
  · omega
  · omega
  · exact hd x hx
  · exact hp x hx
theorem dat_lt {k n j : Nat} {d p : List Nat} (hk : k < 256) (hn : n < 256) (hj : j < 256) (hd : ∀ x ∈ d, x < 256) (hp : ∀ x ∈ p, x < 256) : ∀ x ∈ dat k n j d p, x < 256 := by
  intro x hx
  unfold dat at hx
  rcases List.mem_append.1 hx with hx | hx
  · exact pre_lt hk hn hj hd hp x hx
  · exact digest_lt _ x hx
theorem dat_length (k n j : Nat) (d p : List Nat) : (dat k n j d p).length = 43 + d.length + p.length := by
  unfold dat; rw [List.length_append, pre_length, digest_length]; omega
/-- a shard's bytes, and its fields out of them -/
structure IsD (k n j : Nat) (d p s : ByteArray) : Prop where
  hk : k < 256
  hn : n < 256
  hj : j < 256
  hd : d.size = 32
  hs : s = ofBs (dat k n j (bs d) (bs p))
theorem IsD.bytes {k n j : Nat} {d p s : ByteArray} (h : IsD k n j d p s) : bs s = dat k n j (bs d) (bs p) := by
  rw [h.hs]; exact bs_ofBs _ (dat_lt h.hk h.hn h.hj (bs_lt d) (bs_lt p))
theorem IsD.size {k n j : Nat} {d p s : ByteArray} (h : IsD k n j d p s) : s.size = 75 + p.size := by
  rw [← bs_length, h.bytes, dat_length, bs_length, bs_length, h.hd]
theorem mid_take (A B C : List Nat) : ((A ++ (B ++ C)).take (A.length + B.length)).drop A.length = B := by
  rw [List.take_append, List.drop_append]
  simp
theorem IsD.head {k n j : Nat} {d p s : ByteArray} (h : IsD k n j d p s) : bs s = [115, 104, 100, 49, k, n, j] ++ (be4 p.size ++ (bs d ++ (bs p ++ Sha.digest (pre k n j (bs d) (bs p))))) := by
  rw [h.bytes]; unfold dat
  generalize Sha.digest (pre k n j (bs d) (bs p)) = D
  unfold pre
  rw [bs_length]; simp
theorem IsD.b4 {k n j : Nat} {d p s : ByteArray} (h : IsD k n j d p s) : fB s 4 = k ∧ fB s 5 = n ∧ fB s 6 = j := by
  unfold fB; rw [h.head]; exact ⟨rfl, rfl, rfl⟩
theorem IsD.fd {k n j : Nat} {d p s : ByteArray} (h : IsD k n j d p s) : fD s = d := by
  apply bs_inj
  unfold fD
  have hd := h.head
  have hdl : (bs d).length = 32 := by rw [bs_length, h.hd]
  have hl : ([115, 104, 100, 49, k, n, j] ++ be4 p.size).length = 11 := by simp [be4]
  rw [← List.append_assoc] at hd
  have := mid_take ([115, 104, 100, 49, k, n, j] ++ be4 p.size) (bs d) (bs p ++ Sha.digest (pre k n j (bs d) (bs p)))
  rw [hl, hdl, ← hd] at this
  rw [bs_extract]; exact this
theorem IsD.fp {k n j : Nat} {d p s : ByteArray} (h : IsD k n j d p s) : fP s = p := by
  apply bs_inj
  unfold fP
  have hd := h.head
  have hdl : (bs d).length = 32 := by rw [bs_length, h.hd]
  have hl : (([115, 104, 100, 49, k, n, j] ++ be4 p.size) ++ bs d).length = 43 := by simp [be4, hdl]
  rw [← List.append_assoc, ← List.append_assoc] at hd
  have := mid_take (([115, 104, 100, 49, k, n, j] ++ be4 p.size) ++ bs d) (bs p) (Sha.digest (pre k n j (bs d) (bs p)))
  rw [hl, bs_length, ← hd] at this
  rw [bs_extract, show s.size - 32 = 43 + p.size by have := h.size; omega]; exact this
theorem IsD.count {k n j : Nat} {d p s : ByteArray} (h : IsD k n j d p s) : ((bs s).take 11).drop 7 = be4 p.size := by
  have := mid_take [115, 104, 100, 49, k, n, j] (be4 p.size) (bs d ++ (bs p ++ Sha.digest (pre k n j (bs d) (bs p))))
  rw [← h.head] at this
  exact this
/-- what Make makes of a shard that may be -/
theorem mk_is {K N : Int} {d : ByteArray} {i : Int} {p : ByteArray} (h : mkE K N d i p = 0) : IsD K.toNat N.toNat i.toNat d p (mkD K N d i p) ∧ mkN K N d i p = ofBs (nm (bs d) i) ∧ p.size ≤ 65461 ∧ (K.toNat : Int) = K ∧ (N.toNat : Int) = N ∧ (i.toNat : Int) = i ∧ 0 ≤ i ∧ i < 12 := by
  have hN : mkN K N d i p = ofBs (nm (bs d) i) := by unfold mkN; rw [if_pos h]
  have hD : mkD K N d i p = ofBs (dat K.toNat N.toNat i.toNat (bs d) (bs p)) := by unfold mkD; rw [if_pos h]
  unfold mkE at h
  split at h
  · rename_i hok
    split at h
    · rename_i hp
      unfold okS okC at hok
      simp only [Bool.and_eq_true, decide_eq_true_eq] at hok
      obtain ⟨⟨⟨⟨h1, h2⟩, h3⟩, h4⟩, h5, h6⟩ := hok
      exact ⟨⟨by omega, by omega, by omega, h4, hD⟩, hN, hp, by omega, by omega, by omega, by omega, by omega⟩
    · cases h
  · cases h
/-- READ OF MAKE. -/
theorem rd_mk {K N : Int} {d : ByteArray} {i : Int} {p : ByteArray} (h : mkE K N d i p = 0) : rdOk (mkN K N d i p) (mkD K N d i p) = true ∧ fB (mkD K N d i p) 4 = K ∧ fB (mkD K N d i p) 5 = N ∧ fD (mkD K N d i p) = d ∧ fB (mkD K N d i p) 6 = i ∧ fP (mkD K N d i p) = p := by
  obtain ⟨hI, hN, hp, e1, e2, e3, _, _⟩ := mk_is h
  obtain ⟨f1, f2, f3⟩ := hI.b4
  rw [e1] at f1
  rw [e2] at f2
  rw [e3] at f3
  have f4 := hI.fd
  have f5 := hI.fp
  refine ⟨?_, f1, f2, f4, f3, f5⟩
  unfold rdOk
  rw [f1, f2, f3, f4, f5]
  simp only [Bool.and_eq_true, decide_eq_true_eq]
  exact ⟨by rw [hI.size]; omega, h, trivial, trivial⟩
/-- what Read takes was made -/
theorem rd_is {a s : ByteArray} (h : rdOk a s = true) : mkE (fB s 4) (fB s 5) (fD s) (fB s 6) (fP s) = 0 ∧ mkN (fB s 4) (fB s 5) (fD s) (fB s 6) (fP s) = a ∧ mkD (fB s 4) (fB s 5) (fD s) (fB s 6) (fP s) = s := by
  unfold rdOk at h
  simp only [Bool.and_eq_true, decide_eq_true_eq] at h
  exact h.2
theorem rd_isD {a s : ByteArray} (h : rdOk a s = true) : IsD (fB s 4).toNat (fB s 5).toNat (fB s 6).toNat (fD s) (fP s) s ∧ (fP s).size ≤ 65461 := by
  obtain ⟨h1, h2, h3⟩ := rd_is h
  have := mk_is h1
  rw [h3] at this
  exact ⟨this.1, this.2.2.1⟩
end Go.Proofs.YtffhobkoagnhhaaGreatDoor.H
/- Stripe, no program: what is read of a world whose power stays. -/
namespace Go.Proofs.YtffhobkoagnhhaaGreatDoor
open Go.RowKit Go.Maps
open W
variable {K N : Int} {bl : List Nat} {V : Wd}
/-- what a store tells of its shard -/
def tells (K N : Int) (d : ByteArray) (m : Nat) (s : St) : ByteArray × Bool := snd K N (nmS d m) (W.get s (nmS d m)).1
/-- the sound ones from i on -/
def sounds (K N : Int) (d : ByteArray) : Nat → List Kp → List (Nat × ByteArray)
  | _, [] => []
  | i, x :: r => (if (tells K N d i x.st).2 then [(i, (tells K N d i x.st).1)] else []) ++ sounds K N d (i + 1) r
theorem found_lit (d : ByteArray) : ∀ (j i : Nat) (V : Wd) (s : List (Nat × ByteArray)), Lit V → i + j = V.l.length → (s.length : Int) < K → ∃ c, c ≤ j ∧ askG d (rnx K N d) j i V s = (0, { V with calls := V.calls + c }, s ++ (sounds K N d i (V.l.drop i)).take (K.toNat - s.length))
  | 0, i, V, s, _, hi, _ => ⟨0, Nat.le_refl _, by
      rw [List.drop_of_length_le (by omega)]
      show (_, V, s) = _
      simp [sounds]⟩
  | j + 1, i, V, s, h, hi, hs => by
    obtain ⟨x, hx⟩ : ∃ x, V.l[i]? = some x := ⟨_, List.getElem?_eq_getElem (by omega)⟩
    have hdr : V.l.drop i = x :: V.l.drop (i + 1) := by
      have hi' : i < V.l.length := by omega
      rw [List.drop_eq_getElem_cons hi']
      rw [List.getElem?_eq_getElem hi'] at hx
      cases hx
      rfl
    obtain ⟨e1, e2⟩ := h.get hx (nmS d i)
    rw [askG_succ, e1, e2, if_neg (get_cut _ _), hdr]
    have hrn : rnx K N d s i (W.get x.st (nmS d i)).1 (W.get x.st (nmS d i)).2 = if (tells K N d i x.st).2 then (decide ((s.length : Int) + 1 < K), s ++ [(i, (tells K N d i x.st).1)]) else (decide ((s.length : Int) < K), s) := rfl
    rw [hrn]
    unfold sounds
    cases ht : (tells K N d i x.st).2 with
    | false =>
      simp only [Bool.false_eq_true, if_false, List.nil_append]
      rw [decide_eq_true hs, if_pos rfl]
      obtain ⟨c, hc, k⟩ := found_lit d j (i + 1) { V with calls := V.calls + 1 } s h (by show i + 1 + j = V.l.length; omega) hs
      refine ⟨c + 1, by omega, ?_⟩
      rw [k]
      show (_, ({ V with calls := V.calls + 1 + c } : Wd), _) = _
      rw [show V.calls + 1 + c = V.calls + (c + 1) by omega]
    | true =>
      simp only [if_true]
      by_cases hs1 : (s.length : Int) + 1 < K
      · rw [decide_eq_true hs1, if_pos rfl]
        obtain ⟨c, hc, k⟩ := found_lit d j (i + 1) { V with calls := V.calls + 1 } (s ++ [(i, (tells K N d i x.st).1)]) h (by show i + 1 + j = V.l.length; omega) (by simp; omega)
        refine ⟨c + 1, by omega, ?_⟩
        rw [k]
        show (_, ({ V with calls := V.calls + 1 + c } : Wd), _) = _
        rw [show V.calls + 1 + c = V.calls + (c + 1) by omega, List.append_assoc]
        congr 3
        rw [List.length_append, List.length_singleton, List.singleton_append, List.singleton_append, show K.toNat - s.length = (K.toNat - (s.length + 1)) + 1 by omega, List.take_succ_cons]
      · rw [decide_eq_false hs1, if_neg (by decide)]
        refine ⟨1, by omega, ?_⟩
        congr 2
        rw [List.singleton_append, show K.toNat - s.length = 0 + 1 by omega, List.take_succ_cons, List.take_zero]
/-- a store that has its shard tells its payload -/
theorem tells_held (hm : C.Mx.mayC K N = true) (hb : bl.length ≤ 32768) {m : Nat} (hmn : (m : Int) < N) {s : St} (hs : W.get s (nmS (dig bl) m) = (shD K N bl m, 0)) : tells K N (dig bl) m s = (C.ofBs (C.payL K.toNat bl m), true) := by
  have hKN : 1 ≤ K ∧ K ≤ N ∧ N ≤ 12 := by simpa [C.Mx.mayC] using hm
  have hpz : (C.ofBs (C.payL K.toNat bl m)).size = C.sz K.toNat bl.length := by rw [show (C.ofBs (C.payL K.toNat bl m)).size = _ from H.ofBs_size _, C.payL_length]
  have hE : H.mkE K N (dig bl) (m : Int) (C.ofBs (C.payL K.toNat bl m)) = 0 := by
    unfold H.mkE H.okS H.okC
    rw [decide_eq_true hKN.1, decide_eq_true hKN.2.1, decide_eq_true hKN.2.2, decide_eq_true (dig_len bl), decide_eq_true (show 0 ≤ (m : Int) by omega), decide_eq_true hmn]
    have := sz_small (k := K.toNat) (n := bl.length) (by omega) hb
    rw [if_pos (show (true && true && true && true && (true && true)) = true from rfl), if_pos (by rw [hpz]; omega)]
  have hN : H.mkN K N (dig bl) (m : Int) (C.ofBs (C.payL K.toNat bl m)) = nmS (dig bl) m := by unfold H.mkN; rw [if_pos hE]; rfl
  have hD : H.mkD K N (dig bl) (m : Int) (C.ofBs (C.payL K.toNat bl m)) = shD K N bl m := by
    unfold H.mkD
    rw [if_pos hE, show H.bs (C.ofBs (C.payL K.toNat bl m)) = C.payL K.toNat bl m from H.bs_ofBs _ (C.payL_lt _ _ _), Int.toNat_natCast]
    rfl
  have hr := H.rd_mk hE
  rw [hN, hD] at hr
  unfold tells snd
  rw [hs]
  simp only
  rw [if_pos ⟨hr.1, hr.2.1, hr.2.2.1⟩, hr.2.2.2.2.2]
/-- what Decode tells of K true payloads, or more: the blob -/
theorem dec_blob (hm : C.Mx.mayC K N = true) (hb : bl.length ≤ 32768) (hlt : ∀ x ∈ bl, x < 256) {l : List (Nat × ByteArray)} (hz : C.goodZ N (zsOf l)) (hl : ∀ p ∈ l, p.2 = C.ofBs (C.payL K.toNat bl p.1)) (hK : K ≤ (l.length : Int)) {s : List Nat} {er : Int} (h : C.DecIs K N (zsOf l) (psOf l) s er) : s = bl ∧ er = 0 := by
  have hlen : (zsOf l).length = (psOf l).length := by simp [zsOf, psOf]
  have hzl : (zsOf l).length = l.length := by simp [zsOf]
  have hpre : C.PreD K N (zsOf l) (psOf l) := ⟨hm, hlen, hz⟩
  have hof : C.IsOf K.toNat (zsOf l) (psOf l) bl := by
    refine ⟨hb, hlt, fun i hi => ?_⟩
    rw [hzl] at hi
    have e1 : (psOf l).getD i [] = C.bs l[i].2 := by
      unfold psOf
      rw [List.getD_eq_getElem?_getD, List.getElem?_map, List.getElem?_eq_getElem hi]
      rfl
    have e2 : (zsOf l).getD i 0 = (l[i].1 : Int) := by
      unfold zsOf
      rw [List.getD_eq_getElem?_getD, List.getElem?_map, List.getElem?_eq_getElem hi]
      rfl
    rw [e1, e2, hl _ (List.getElem_mem hi), Int.toNat_natCast]
    exact C.bs_ofBs _ (C.payL_lt _ _ _)
  exact h.one (.inr (.inr ⟨hpre, by rw [hzl]; omega, .inl ⟨hof, rfl⟩⟩))
end Go.Proofs.YtffhobkoagnhhaaGreatDoor
/- Stripe, no program: Read of a world whose power stays: the blob, or it is lost. -/
namespace Go.Proofs.YtffhobkoagnhhaaGreatDoor
open Go.RowKit Go.Maps
open W
variable {K N : Int} {bl : List Nat} {V : Wd}
/-- the sound ones have rising numbers, and say what their stores tell -/
theorem sounds_mem (d : ByteArray) : ∀ (i : Nat) (l : List Kp) (p : Nat × ByteArray), p ∈ sounds K N d i l → i ≤ p.1 ∧ p.1 < i + l.length ∧ ∃ x, l[p.1 - i]? = some x ∧ tells K N d p.1 x.st = (p.2, true)
  | _, [], p, h => by cases h
  | i, x :: r, p, h => by
    unfold sounds at h
    rcases List.mem_append.1 h with h | h
    · cases ht : (tells K N d i x.st).2 with
      | false => rw [ht] at h; simp at h
      | true =>
        rw [ht] at h
        simp at h
        subst h
        refine ⟨Nat.le_refl _, by simp, x, by simp, ?_⟩
        rw [← ht]
    · obtain ⟨h1, h2, y, h3, h4⟩ := sounds_mem d (i + 1) r p h
      refine ⟨by omega, by simp; omega, y, ?_, h4⟩
      rw [show p.1 - i = (p.1 - (i + 1)) + 1 by omega]
      simpa using h3
theorem sounds_rising (d : ByteArray) : ∀ (i : Nat) (l : List Kp), (sounds K N d i l).Pairwise fun p q => p.1 < q.1
  | _, [] => List.Pairwise.nil
  | i, x :: r => by
    unfold sounds
    refine List.pairwise_append.2 ⟨?_, sounds_rising d (i + 1) r, fun p hp q hq => ?_⟩
    · split
      · exact List.pairwise_singleton _ _
      · exact List.Pairwise.nil
    · have := (sounds_mem d (i + 1) r q hq).1
      split at hp
      · simp at hp; subst hp; show i < q.1; omega
      · cases hp
theorem goodZ_of {l : List (Nat × ByteArray)} (hr : l.Pairwise fun p q => p.1 < q.1) (hN : ∀ p ∈ l, (p.1 : Int) < N) : C.goodZ N (zsOf l) := by
  have hz : ∀ j (hj : j < l.length), (zsOf l).getD j 0 = (l[j].1 : Int) := fun j hj => by
    unfold zsOf
    rw [List.getD_eq_getElem?_getD, List.getElem?_map, List.getElem?_eq_getElem hj]
    rfl
  intro j hj
  have hj' : j < l.length := by simpa [zsOf] using hj
  rw [hz j hj']
  refine ⟨⟨by omega, hN _ (List.getElem_mem hj')⟩, fun i hi => ?_⟩
  rw [hz i (by omega)]
  have := List.pairwise_iff_getElem.1 hr i j (by omega) hj' hi
  omega
theorem found_whole (hl : Lit V) (hK : 1 ≤ K) (d : ByteArray) : ∃ c, c ≤ V.l.length ∧ found V K N d = (0, { V with calls := V.calls + c }, (sounds K N d 0 V.l).take K.toNat) := by
  obtain ⟨c, h1, h2⟩ := found_lit (K := K) (N := N) d V.l.length 0 V [] hl (by omega) (by show (0 : Int) < K; omega)
  refine ⟨c, h1, ?_⟩
  unfold found
  rw [h2]
  simp
/-- every store that tells a shard tells the blob's -/
def Honest (K N : Int) (bl : List Nat) (l : List Kp) : Prop := ∀ (m : Nat) (x : Kp), l[m]? = some x → (tells K N (dig bl) m x.st).2 = true → (tells K N (dig bl) m x.st).1 = C.ofBs (C.payL K.toNat bl m)
/-- Read: the blob if K are sound, else it is lost -/
theorem read_lit (hl : Lit V) (hm : C.Mx.mayC K N = true) (hN : N = (V.l.length : Int)) (hb : bl.length ≤ 32768) (hlt : ∀ x ∈ bl, x < 256) (hh : Honest K N bl V.l) {o : ByteArray} {z : Int} {V' : Wd} (h : ReadIs V K N (dig bl) o z V') : (∃ c, c ≤ V.l.length ∧ V' = { V with calls := V.calls + c }) ∧ ((K ≤ ((sounds K N (dig bl) 0 V.l).length : Int) ∧ o = C.ofBs bl ∧ z = 0) ∨ (((sounds K N (dig bl) 0 V.l).length : Int) < K ∧ o = ⟨#[]⟩ ∧ z = 54)) := by
  have hKN : 1 ≤ K ∧ K ≤ N ∧ N ≤ 12 := by simpa [C.Mx.mayC] using hm
  have hA : askE V K N (dig bl) = 0 := by
    unfold askE fitE
    have hF : (if C.Mx.mayC K N = true ∧ N = (V.l.length : Int) then (0:Int) else 1) = 0 := if_pos ⟨hm, hN⟩
    rw [hF, if_pos rfl, if_pos (dig_len bl)]
  obtain ⟨c, hc, hf⟩ := found_whole (N := N) hl hKN.1 (dig bl)
  have hmem : ∀ p ∈ (sounds K N (dig bl) 0 V.l).take K.toNat, p.1 < V.l.length ∧ p.2 = C.ofBs (C.payL K.toNat bl p.1) := fun p hp => by
    obtain ⟨_, h2, x, h3, h4⟩ := sounds_mem (dig bl) 0 V.l p (List.mem_of_mem_take hp)
    refine ⟨by omega, ?_⟩
    have := hh p.1 x (by simpa using h3) (by rw [h4])
    rw [h4] at this
    exact this
  rcases h with ⟨h, _⟩ | ⟨_, h, _⟩ | ⟨_, _, hV, s, er, hd, h⟩
  · exact absurd hA h
  · rw [hf] at h
    exact absurd rfl h
  · rw [hf] at hV hd
    simp only at hV hd
    refine ⟨⟨c, hc, hV⟩, ?_⟩
    have hgood : C.goodZ N (zsOf ((sounds K N (dig bl) 0 V.l).take K.toNat)) := goodZ_of ((sounds_rising (dig bl) 0 V.l).sublist (List.take_sublist _ _)) fun p hp => by
      have := (hmem p hp).1
      omega
    by_cases hlen : K ≤ ((sounds K N (dig bl) 0 V.l).length : Int)
    · left
      obtain ⟨e1, e2⟩ := dec_blob hm hb hlt hgood (fun p hp => (hmem p hp).2) (by rw [List.length_take]; omega) hd
      subst e1 e2
      rcases h with ⟨_, _, h3, h4⟩ | ⟨h1, _⟩
      · exact ⟨hlen, h3, h4⟩
      · exact absurd ⟨rfl, rfl⟩ h1
    · right
      have hls : ((sounds K N (dig bl) 0 V.l).take K.toNat).length < K.toNat := by rw [List.length_take]; omega
      have her : er = 54 := by
        rcases hd with ⟨h1, _⟩ | ⟨_, _, _, h4⟩ | ⟨_, h2, _⟩
        · exact absurd ⟨hm, by simp [zsOf, psOf], hgood⟩ h1
        · exact h4
        · exfalso
          apply h2
          have : (zsOf ((sounds K N (dig bl) 0 V.l).take K.toNat)).length = ((sounds K N (dig bl) 0 V.l).take K.toNat).length := by simp [zsOf]
          rw [this]
          omega
      rcases h with ⟨h1, _⟩ | ⟨_, h2, h3⟩
      · rw [her] at h1; cases h1
      · exact ⟨by omega, h2, h3⟩
/-- a store that has nothing of its shard's name tells none -/
theorem tells_none {d : ByteArray} {m : Nat} {s : St} (h : (W.get s (nmS d m)).1 = ⟨#[]⟩) : tells K N d m s = (⟨#[]⟩, false) := by
  unfold tells snd
  rw [h, if_neg]
  intro hh
  have := hh.1
  unfold H.rdOk at this
  rw [decide_eq_false (by decide)] at this
  simp at this
end Go.Proofs.YtffhobkoagnhhaaGreatDoor
/- Stripe's laws: worlds side by side; the closed examples, reckoned. -/
namespace Go.Proofs.YtffhobkoagnhhaaGreatDoor
open Go.RowKit Go.Maps
open W
variable {w0 w w' : World} {b : Nat} {V V' : Wd} {T : Nat → Prop}
/-- a world made behind w may be said to be made since w0: all that lies below w is beside it -/
theorem WT.rebase {w1 : World} (h : WT w1 w b V T) (hb : Below w0.heap.size w0 w1) : WT w0 w b V (fun i => i < w1.heap.size) := by
  obtain ⟨S, g, h1, h2, h3, _⟩ := h
  refine ⟨S, g, h1, fun i hi => Nat.le_trans hb.size (h2 i hi), hb.trans (h3.mono hb.size), fun i hi => ⟨fun hS => ?_, Nat.lt_of_lt_of_le hi h3.size⟩⟩
  have := h2 i hS
  omega
/-- an elder world: it lies below N -/
def Old (N : Nat) (w0 w : World) (b : Nat) (V : Wd) (T : Nat → Prop) : Prop := ∃ S g, IsWd w S b g V ∧ (∀ i, S i → w0.heap.size ≤ i ∧ i < N) ∧ Below w0.heap.size w0 w ∧ N ≤ w.heap.size ∧ ∀ i, T i → ¬ S i ∧ i < N
theorem WT.old (h : WT w0 w b V T) : Old w.heap.size w0 w b V T := by
  obtain ⟨S, g, h1, h2, h3, h4⟩ := h
  exact ⟨S, g, h1, fun i hi => ⟨h2 i hi, h1.bound i hi⟩, h3, Nat.le_refl _, h4⟩
theorem Old.back {N : Nat} (h : Old N w0 w b V T) : WT w0 w b V T := by
  obtain ⟨S, g, h1, h2, h3, h5, h4⟩ := h
  exact ⟨S, g, h1, fun i hi => (h2 i hi).1, h3, fun i hi => ⟨(h4 i hi).1, Nat.lt_of_lt_of_le (h4 i hi).2 h5⟩⟩
theorem Old.only {N : Nat} (h : Old N w0 w b V T) (ho : Only T w w') (hT : ∀ i, T i → w0.heap.size ≤ i) : Old N w0 w' b V T := by
  obtain ⟨S, g, h1, h2, h3, h5, h4⟩ := h
  exact ⟨S, g, h1.only ho (fun i hi hT => (h4 i hT).1 hi), h2, h3.trans (ho.below h3.size hT), Nat.le_trans h5 ho.size, h4⟩
theorem Old.kept {N : Nat} (h : Old N w0 w b V T) (hk : Kpt (fun i => i < N) w w') (hb : Below w0.heap.size w0 w') : Old N w0 w' b V T := by
  obtain ⟨S, g, h1, h2, h3, h5, h4⟩ := h
  exact ⟨S, g, h1.only (S' := fun i => N ≤ i) ⟨hb.os.trans h3.os.symm, hb.tape.trans h3.tape.symm, hb.output.trans h3.output.symm, hk.1, fun i _ hn => hk.2 i (by omega)⟩ (fun i hi hN => by have := (h2 i hi).2; omega), h2, hb, Nat.le_trans h5 hk.1, h4⟩
theorem Old.below {N : Nat} (h : Old N w0 w b V T) (hb : Below w.heap.size w w') : Old N w0 w' b V T := by
  obtain ⟨S, g, h1, h2, h3, h5, h4⟩ := id h
  exact h.kept ⟨hb.size, fun i hi => hb.block i (Nat.lt_of_lt_of_le hi h5)⟩ (h3.trans (hb.mono h3.size))
/-- the examples' blob -/
abbrev blob : List Nat := [98, 108, 111, 98]
theorem blob_lt : ∀ x ∈ blob, x < 256 := by decide
/-- a world of three stores -/
def W3 (a b c : Nat) (s t u : Bool) (x y z : St) (n : Nat) : Wd := ⟨[⟨a, x, s⟩, ⟨b, y, t⟩, ⟨c, z, u⟩], n, false, false, 0⟩
theorem New.three (h : New 3 V) : ∃ a b c, V = W3 a b c false false false st0 st0 st0 0 := by
  obtain ⟨l, n, dk, ct, lf⟩ := V
  obtain ⟨h1, h2, h3, h4, h5, h6⟩ := h
  dsimp only at *
  subst h3 h4 h5 h6
  match l, h1 with
  | [⟨a, x, s⟩, ⟨b, y, t⟩, ⟨c, z, u⟩], _ =>
    have p1 := h2 ⟨a, x, s⟩ (by simp)
    have p2 := h2 ⟨b, y, t⟩ (by simp)
    have p3 := h2 ⟨c, z, u⟩ (by simp)
    dsimp only at p1 p2 p3
    exact ⟨a, b, c, by rw [p1.1, p1.2, p2.1, p2.2, p3.1, p3.2]; rfl⟩
abbrev hd (m : Nat) : St := held 2 3 blob m
/-- a store that is down -/
def dn0 : St := ⟨[], [], true, none, none, false⟩
/-- a store that was wiped -/
def wp0 : St := ⟨[], [], false, none, none, false⟩
section
variable (a b c : Nat) (s t u : Bool) (n : Nat)
set_option maxRecDepth 100000
theorem e1 : wrG (W3 a b c s t u st0 st0 st0 0) 2 3 blob = ((dig blob, 0), W3 a b c s t u (hd 0) (hd 1) (hd 2) 9) := by kernel_rfl
theorem e2 : wrG (W3 a b c s t u (hd 0) (hd 1) (hd 2) 9) 2 3 blob = ((dig blob, 0), W3 a b c s t u (hd 0) (hd 1) (hd 2) 15) := by kernel_rfl
theorem e3 : strikeW (W3 a b c s t u st0 st0 st0 0) 4 0 0 0 0 = (0, W3 a b c (s || true) t u dn0 st0 st0 0) := by kernel_rfl
theorem e4 : wrG (W3 a b c s t u dn0 st0 st0 0) 2 3 blob = ((dig blob, 0), W3 a b c s t u dn0 (hd 1) (hd 2) 7) := by kernel_rfl
theorem e5 : strikeW (W3 a b c s t u (hd 0) (hd 1) (hd 2) 15) 1 0 0 0 0 = (0, W3 a b c (s || true) t u wp0 (hd 1) (hd 2) 15) := by kernel_rfl
theorem e6 : strikeW (W3 a b c s t u wp0 (hd 1) (hd 2) 15) 1 2 0 0 0 = (0, W3 a b c s t (u || true) wp0 (hd 1) wp0 15) := by kernel_rfl
theorem z1 : callsZ (W3 a b c s t u st0 st0 st0 0) 2 3 blob = 9 := by unfold callsZ; rw [e1]; rfl
theorem z2 : callsZ (W3 a b c s t u (hd 0) (hd 1) (hd 2) 9) 2 3 blob = 6 := by unfold callsZ; rw [e2]; rfl
theorem z4 : callsZ (W3 a b c s t u dn0 st0 st0 0) 2 3 blob = 7 := by unfold callsZ; rw [e4]; rfl
end
end Go.Proofs.YtffhobkoagnhhaaGreatDoor
/- Stripe's laws: works. -/
namespace Go.Proofs.YtffhobkoagnhhaaGreatDoor
open Go.RowKit Go.Maps
open W
set_option linter.unusedVariables false
section
set_option maxRecDepth 100000
theorem fit_of {s : St} (h1 : s.seen.length ≤ 100) (h2 : s.writes.length ≤ 100) (h3 : (s.seen.all fun p => decide (p.1.size ≤ 80) && decide (p.2.size ≤ 65536)) = true) (h4 : (s.writes.all fun q => decide (q.name.size ≤ 80) && (decide ((q.was.getD ⟨#[]⟩).size ≤ 65536) && decide ((q.now.getD ⟨#[]⟩).size ≤ 65536))) = true) (h5 : ∀ k, s.refuse = some k → k < 9223372036854775808) (h6 : ∀ k, s.room = some k → k < 9223372036854775808) : Fit 100 s := by
  have q3 := fun p hp => List.all_eq_true.1 h3 p hp
  have q4 := fun p hp => List.all_eq_true.1 h4 p hp
  simp only [Bool.and_eq_true, decide_eq_true_eq] at q3 q4
  exact ⟨h1, h2, fun p hp => (q3 p hp).1, fun p hp => (q3 p hp).2, fun p hp => (q4 p hp).1, fun p hp => (q4 p hp).2.1, fun p hp => (q4 p hp).2.2, h5, h6⟩
theorem fit_st0 : Fit 100 st0 := fit_of (by decide +kernel) (by decide +kernel) (by decide +kernel) (by decide +kernel) (fun k h => by cases h) (fun k h => by cases h)
theorem fit_dn0 : Fit 100 dn0 := fit_of (by decide +kernel) (by decide +kernel) (by decide +kernel) (by decide +kernel) (fun k h => by cases h) (fun k h => by cases h)
theorem fit_wp0 : Fit 100 wp0 := fit_of (by decide +kernel) (by decide +kernel) (by decide +kernel) (by decide +kernel) (fun k h => by cases h) (fun k h => by cases h)
theorem fit_hd0 : Fit 100 (hd 0) := fit_of (by decide +kernel) (by decide +kernel) (by decide +kernel) (by decide +kernel) (fun k h => by cases h) (fun k h => by cases h)
theorem fit_hd1 : Fit 100 (hd 1) := fit_of (by decide +kernel) (by decide +kernel) (by decide +kernel) (by decide +kernel) (fun k h => by cases h) (fun k h => by cases h)
theorem fit_hd2 : Fit 100 (hd 2) := fit_of (by decide +kernel) (by decide +kernel) (by decide +kernel) (by decide +kernel) (fun k h => by cases h) (fun k h => by cases h)
end
variable {a b c : Nat} {s t u : Bool} {n : Nat} {x y z : St}
theorem fit3 (h1 : Fit 100 x) (h2 : Fit 100 y) (h3 : Fit 100 z) : ∀ k ∈ (W3 a b c s t u x y z n).l, Fit 100 k.st := by
  intro k hk
  simp only [W3, List.mem_cons, List.not_mem_nil, or_false] at hk
  rcases hk with rfl | rfl | rfl
  · exact h1
  · exact h2
  · exact h3
theorem ok3 (h1 : Fit 100 x) (h2 : Fit 100 y) (h3 : Fit 100 z) (hn : n ≤ 100) : Ok 100 (W3 a b c s t u x y z n).l.length (W3 a b c s t u x y z n) := ⟨rfl, fit3 h1 h2 h3, hn, by show (0 : Nat) < _; decide⟩
theorem lit3 : Lit (W3 a b c s t u x y z n) := ⟨rfl, rfl⟩
/-- what a store tells is the blob's shard, or none -/
def Hon (m : Nat) (s : St) : Prop := (tells 2 3 (dig blob) m s).2 = true → (tells 2 3 (dig blob) m s).1 = C.ofBs (C.payL 2 blob m)
theorem hon3 (h1 : Hon 0 x) (h2 : Hon 1 y) (h3 : Hon 2 z) : Honest 2 3 blob (W3 a b c s t u x y z n).l := by
  intro m k hk
  match m with
  | 0 => cases hk; exact h1
  | 1 => cases hk; exact h2
  | 2 => cases hk; exact h3
  | _ + 3 => simp [W3] at hk
section
set_option maxRecDepth 100000
theorem hon_none {m : Nat} {s : St} (h : (tells 2 3 (dig blob) m s).2 = false) : Hon m s := fun h' => by rw [h] at h'; cases h'
theorem hon_hd0 : Hon 0 (hd 0) := fun _ => by kernel_rfl
theorem hon_hd1 : Hon 1 (hd 1) := fun _ => by kernel_rfl
theorem hon_hd2 : Hon 2 (hd 2) := fun _ => by kernel_rfl
theorem hon_dn0 : Hon 0 dn0 := hon_none (by decide +kernel)
theorem hon_wp0 : Hon 0 wp0 := hon_none (by decide +kernel)
theorem hon_wp2 : Hon 2 wp0 := hon_none (by decide +kernel)
theorem sn1 : (sounds 2 3 (dig blob) 0 (W3 a b c s t u dn0 (hd 1) (hd 2) n).l).length = 2 := by kernel_rfl
theorem sn2 : (sounds 2 3 (dig blob) 0 (W3 a b c s t u wp0 (hd 1) wp0 n).l).length = 1 := by kernel_rfl
end
theorem rd1 {o : ByteArray} {er : Int} {V' : Wd} (h : ReadIs (W3 a b c s t u dn0 (hd 1) (hd 2) 7) 2 3 (dig blob) o er V') : o = C.ofBs blob ∧ er = 0 := by
  obtain ⟨_, h | h⟩ := read_lit (K := 2) (N := 3) lit3 (by decide) rfl (by decide) blob_lt (hon3 hon_dn0 hon_hd1 hon_hd2) h
  · exact h.2
  · rw [sn1] at h; exact absurd h.1 (by decide)
theorem rd2 {o : ByteArray} {er : Int} {V' : Wd} (h : ReadIs (W3 a b c s t u wp0 (hd 1) wp0 15) 2 3 (dig blob) o er V') : er = 54 := by
  obtain ⟨_, h | h⟩ := read_lit (K := 2) (N := 3) lit3 (by decide) rfl (by decide) blob_lt (hon3 hon_wp0 hon_hd1 hon_wp2) h
  · rw [sn2] at h; exact absurd h.1 (by decide)
  · exact h.2.2
end Go.Proofs.YtffhobkoagnhhaaGreatDoor
