/- Quorum: going through those that answer, where what is done may make maps: only the two blocks of the loop's own book-keeping must be left alone. -/
import Derived.Test.YtmpgfpmkmgebdaaGreatDoorP9
import Derived.Test.YtmpgfpmkmgebdaaGreatDoorFF2
namespace Go.Proofs.YtmpgfpmkmgebdaaGreatDoor
open Go.RowKit Go.Maps
open W
set_option linter.unusedVariables false
/-- the two blocks from B on are as they were -/
structure Two2 (B : Nat) (W W' : World) : Prop where
  d : W'.heap[B]? = W.heap[B]?
  l : W'.heap[B + 1]? = W.heap[B + 1]?
/-- what a round leaves -/
def roundPost {N : Nat} (B g : Nat) (T : Nat → Prop) (I Ix : List (Sn N) → World → Prop) (xs : List (Sn N)) (W : World) : Exit → Act → World → Prop
  | .normal, _, W' => Two2 B W W' ∧ Rel T g W W' ∧ I xs W'
  | .ret, _, W' => Two2 B W W' ∧ Ix xs W'
  | _, _, _ => False
set_option maxHeartbeats 2000000 in
theorem rangeAns {N n cb g : Nat} {fl : List Bool} {T : Nat → Prop} {gop : Operand} {ps : Array Tmp} {assign body : Code} {Q : Exit → Act → World → Prop} {a : Act} {w : World} (hn : 1 ≤ n)
    (hg : a.eval gop = .func (.func 79) #[] #[.pointer (some ⟨cb, 0, none⟩)]) (hps : ps.size = 2) (hcb : Has w cb #[.slice (some ⟨g, 0, none⟩) N N] 68) (hfg : Flags w g fl) (hfl : fl.length = N) (hN : N ≤ 1000) (hT1 : ¬ T cb) (hTn : ∀ i, w.heap.size ≤ i → T i) (hgl : g < w.heap.size)
    (I Ix : List (Sn N) → World → Prop) (h0 : ∀ o1 o2, I [] ((w.alloc o1).alloc o2))
    (hI : ∀ pre W k o, (k = w.heap.size ∨ k = w.heap.size + 1) → I pre W → I pre (W.putObj k o)) (hIx : ∀ pre W k o, (k = w.heap.size ∨ k = w.heap.size + 1) → Ix pre W → Ix pre (W.putObj k o)) (a1 : Sn N → Act)
    (hassign : ∀ (l : Nat) (x : Sn N) (W : World) (K : Act → World → Prop), K (a1 x) W → assign.wpIn (Fence.wide.inRound l) (n - 1 - 1) Tryz.prog (Exit.then K (fun _ _ _ => False)) { tmps := (ps.zip (snV g x)).foldl (fun t (p, v) => t.setIfInBounds p v) a.tmps, defers := [] } W)
    (hbody : ∀ (l : Nat) (pre : List (Sn N)) (x : Sn N) (W : World), I pre W → pre.length < N → body.wpIn (Fence.wide.inRound l) (n - 1 - 1) Tryz.prog (roundPost w.heap.size g T I Ix (pre ++ [x]) W) (a1 x) W)
    (hdone : ∀ (xs : List (Sn N)) (W : World), xs.map snN = idxF 0 fl → I xs W → W.heap[w.heap.size]? = some (.deferred (some [])) → Q .normal { a with defers := { target := .collected w.heap.size, args := #[] } :: a.defers } W)
    (hstop : ∀ (pre : List (Sn N)) (W : World), pre.map snN <+: idxF 0 fl → Ix pre W → W.heap[w.heap.size]? = some (.deferred (some [])) → Code.ret.wpIn Fence.wide n Tryz.prog Q { a with defers := { target := .collected w.heap.size, args := #[] } :: a.defers } W) :
    (Code.rangeFunc gop ps assign body).wpIn Fence.wide n Tryz.prog Q a w := by
  refine wpIn_rangeFunc ?_
  intro fn hfn
  obtain ⟨B, hB⟩ : ∃ B, B = w.heap.size := ⟨_, rfl⟩
  obtain ⟨rc, hrc⟩ : ∃ rc : LoopState → Option Code → Loop, rc = fun st pe => { state := st, pending := pe, fn, tmps := a.tmps, params := ps, assign, body, defers := w.heap.size } := ⟨_, rfl⟩
  obtain ⟨W1, hW1⟩ : ∃ W1, W1 = (w.alloc (.deferred (some []))).alloc (.loop (rc .ready none)) := ⟨_, rfl⟩
  have hsz : W1.heap.size = B + 2 := by rw [hW1, hB]; simp
  have l1 : W1.heap[B + 1]? = some (.loop (rc .ready none)) := by
    have := World.alloc_heap_new (w.alloc (.deferred (some []))) (.loop (rc .ready none))
    rw [World.size_alloc] at this
    rw [hW1, hB]
    exact this
  have k1 : W1.heap[B]? = some (.deferred (some [])) := by
    rw [hW1, hB]
    exact (Below.heap_alloc _ _ _ (by simp)).trans (World.alloc_heap_new w _)
  have b1 : Below w.heap.size w W1 := by rw [hW1]; exact ((Below.refl _ w).alloc (Nat.le_refl _) _).alloc (by simp) _
  have hTB : T (B + 1) := hTn _ (by omega)
  have hgB : g ≠ B + 1 := by omega
  -- the book-keeping holds; what is told is I
  obtain ⟨J, hJ⟩ : ∃ J : List (Sn N) → World → Prop, J = fun pre W => I pre W ∧ W.heap[B + 1]? = some (.loop (rc .ready none)) ∧ W.heap[B]? = some (.deferred (some [])) := ⟨_, rfl⟩
  obtain ⟨Jx, hJx⟩ : ∃ Jx : List (Sn N) → World → Prop, Jx = fun pre W => Ix pre W ∧ W.heap[B + 1]? = some (.loop (rc .done (some .ret))) ∧ W.heap[B]? = some (.deferred (some [])) := ⟨_, rfl⟩
  have hround : ∀ pre (x : Sn N) W, J pre W → pre.length < N → YieldAt Fence.wide (n - 1 - 1) Tryz.prog (B + 1) (snV g x) W fun e W' =>
      (e = .returned (.bool true) ∧ J (pre ++ [x]) W' ∧ Rel T g W W') ∨ (e = .returned (.bool false) ∧ Jx (pre ++ [x]) W') := by
    intro pre x W hj hlen
    rw [hJ] at hj
    obtain ⟨hi, hl, hk⟩ := hj
    have hlt : B + 1 < W.heap.size := (Array.getElem?_eq_some_iff.1 hl).1
    have hy := run_yield (P := Tryz.prog) (args := snV g x) hl (by rw [hrc]; simp [snV, hps])
    rw [hrc] at hy
    refine ⟨fn, _, assign, body, hy, roundIn_of_wpIn hfn (hassign _ x W _ ?_)⟩
    clear hy
    obtain ⟨Wb, hWb⟩ : ∃ Wb, Wb = W.putObj (B + 1) (.loop { rc .ready none with state := .busy }) := ⟨_, rfl⟩
    refine ⟨_, run_beginRound hl (by rw [hrc]), ?_⟩
    have lb : Wb.heap[B + 1]? = some (.loop { rc .ready none with state := .busy }) := by rw [hWb]; exact World.putObj_heap_same hlt
    have kb : Wb.heap[B]? = some (.deferred (some [])) := by rw [hWb]; exact (World.putObj_heap_other (by omega)).trans hk
    have rb : Rel T g W Wb := by rw [hWb]; exact Rel.putObj _ hTB hgB
    have ib : I pre Wb := by rw [hWb]; exact hI pre W (B + 1) _ (.inr (by rw [hB])) hi
    rw [← hWb]
    refine wpIn_mono (hbody (B + 1) pre x Wb ib hlen) ?_
    intro e a3 W3 hp
    have fin : ∀ (jump : Option Code), Two2 w.heap.size Wb W3 → ∃ W4, W4 = W3.putObj (B + 1) (.loop (rc (if jump.isNone then .ready else .done) jump)) ∧ (Instr.endRound (B + 1) jump).run Tryz.prog W3 = .ok (.bool jump.isNone) W4 ∧ W4.heap[B + 1]? = some (.loop (rc (if jump.isNone then .ready else .done) jump)) ∧ W4.heap[B]? = some (.deferred (some [])) := fun jump h2 => by
      have l3 : W3.heap[B + 1]? = some (.loop { rc .ready none with state := .busy }) := by
        have := h2.l
        rw [← hB] at this
        rw [this]
        exact lb
      have k3 : W3.heap[B]? = some (.deferred (some [])) := by
        have := h2.d
        rw [← hB] at this
        rw [this]
        exact kb
      refine ⟨_, rfl, ?_, World.putObj_heap_same (Array.getElem?_eq_some_iff.1 l3).1, (World.putObj_heap_other (by omega)).trans k3⟩
      have := run_endRound (P := Tryz.prog) jump l3
      rw [hrc] at this ⊢
      exact this
    cases e with
    | normal =>
      obtain ⟨h2, h3, h4⟩ := hp
      obtain ⟨W4, hW4, e1, e2, e3⟩ := fin none h2
      refine ⟨_, _, e1, .inl ⟨rfl, ?_, ?_⟩⟩
      · rw [hJ]
        exact ⟨by rw [hW4]; exact hI _ _ (B + 1) _ (.inr (by rw [hB])) h4, e2, e3⟩
      · rw [hW4]
        exact (rb.trans h3).trans (Rel.putObj _ hTB hgB)
    | ret =>
      obtain ⟨h2, h4⟩ := hp
      obtain ⟨W4, hW4, e1, e2, e3⟩ := fin (some .ret) h2
      refine ⟨_, _, e1, .inr ⟨rfl, ?_⟩⟩
      rw [hJx]
      exact ⟨by rw [hW4]; exact hIx _ _ (B + 1) _ (.inr (by rw [hB])) h4, e2, e3⟩
    | exit id => exact hp.elim
    | goto t => exact hp.elim
    | panic ch => exact hp.elim
    | outgrown => exact hp.elim
  have hj0 : J [] W1 := by
    rw [hJ]
    exact ⟨by rw [hW1]; exact h0 _ _, l1, k1⟩
  have hit := ans1_in (n - 1) (B + 1) cb g N fl hfl hN T J Jx hround W1 (hcb.below b1 hcb.lt) ((Rel.below (T := T) b1).2 fl hfg) hT1 hj0
  refine ⟨B + 1, [{ target := .collected w.heap.size, args := #[] }], W1, { target := .fn (.func 79) #[.pointer (some ⟨cb, 0, none⟩)], args := #[.func (.yield (B + 1)) #[] #[]] }, W1, 79,
    #[.func (.yield (B + 1)) #[] #[]] ++ #[.pointer (some ⟨cb, 0, none⟩)], W1, ?_, ?_, ?_, ?_, fun _ => hn, ?_⟩
  · rw [hW1, hrc, hB]; exact run_enterLoop_outer _ _ _ _ _
  · simp only [resolve, hg]
    simp [go_sem]
  · intro f' hf'
    trivial
  · simp [invoke, go_sem]
  · refine hit.mono ?_
    rintro e W2 ⟨⟨v, rfl⟩, (⟨xs, hS, hj⟩ | ⟨pre, hSp, hj⟩)⟩
    · rw [hJ] at hj
      obtain ⟨hi, hl, hk⟩ := hj
      refine ⟨none, _, by have := run_endLoop (P := Tryz.prog) hl (by rw [hrc]; simp); rw [hrc] at this; exact this, hdone xs _ hS (hI _ _ (B + 1) _ (.inr (by rw [hB])) hi) ?_⟩
      rw [← hB]
      exact (World.putObj_heap_other (by omega)).trans hk
    · rw [hJx] at hj
      obtain ⟨hi, hl, hk⟩ := hj
      refine ⟨some .ret, _, by have := run_endLoop (P := Tryz.prog) hl (by rw [hrc]; simp); rw [hrc] at this; exact this, hstop pre _ hSp (hIx _ _ (B + 1) _ (.inr (by rw [hB])) hi) ?_⟩
      rw [← hB]
      exact (World.putObj_heap_other (by omega)).trans hk
end Go.Proofs.YtmpgfpmkmgebdaaGreatDoor
/- Quorum, no program: what a store has in its slots, also behind a crash; a manifest is put and synced. -/
namespace Go.Proofs.YtmpgfpmkmgebdaaGreatDoor
open Go.RowKit Go.Maps
open W
/-- what stands in slot k of a store -/
def sl (n : Int) (s : St) (k : Nat) : Rp := match W.look (mn k) s.seen with
  | some d => lookd n d
  | none => noR
/-- what is gathered of a store -/
def hdOf (n : Int) (s : St) : Hd := if s.down then zH else ⟨true, sl n s 0, sl n s 1⟩
/-- a manifest stands in a store -/
def Stands (n : Int) (s : St) (b : Bst) : Prop := sl n s 0 = ⟨true, b⟩ ∨ sl n s 1 = ⟨true, b⟩
theorem lookd_ok {n : Int} {s : ByteArray} {b : Bst} (h : lookd n s = ⟨true, b⟩) : mErr b = 0 ∧ b.n = n ∧ mdat b = s := by
  unfold lookd at h
  split at h
  · rename_i h1
    obtain ⟨e, g, k, m, h2, h3, h4, h5, hd⟩ := F.rd_is h1.1
    obtain ⟨o1, o2⟩ := hd.ok
    simp only [Rp.mk.injEq, true_and] at h
    subst h
    unfold mErr mdat
    simp only
    rw [h2, h3, h4, h5]
    exact ⟨o1, h5 ▸ h1.2, o2⟩
  · cases h
theorem Stands.ok {n : Int} {s : St} {b : Bst} (h : Stands n s b) : mErr b = 0 ∧ b.n = n := by
  have : ∀ k, sl n s k = ⟨true, b⟩ → mErr b = 0 ∧ b.n = n := fun k hk => by
    unfold sl at hk
    split at hk
    · exact ⟨(lookd_ok hk).1, (lookd_ok hk).2.1⟩
    · cases hk
  rcases h with h | h
  · exact this 0 h
  · exact this 1 h
theorem mn_ne {a c : Nat} (ha : a ≤ 1) (hc : c ≤ 1) (h : a ≠ c) : mn a ≠ mn c := by
  have e : m0 ≠ m1 := by decide
  unfold mn
  rcases (by omega : (a = 0 ∧ c = 1) ∨ (a = 1 ∧ c = 0)) with ⟨rfl, rfl⟩ | ⟨rfl, rfl⟩
  · exact e
  · exact fun h => e h.symm
theorem mdat_size {b : Bst} (h : mErr b = 0) : (mdat b).size ≤ 65536 := by
  obtain ⟨e, g, k, n, h1, h2, h3, h4, hd⟩ := F.mk_is h
  have := hd.size
  have := (F.mkE_zero.1 h).2
  unfold mdat
  omega
theorem mn_fine {b : Bst} (h : mErr b = 0) (k : Nat) : badName (mn k) (mdat b) = false := by
  have := mdat_size h
  have e0 : m0.size = 2 := by decide
  have e1 : m1.size = 2 := by decide
  unfold badName mn
  split <;> simp [e0, e1] <;> omega
theorem mn_over (s : St) (k : Nat) (d : ByteArray) : over s (mn k) d = false := by
  have : isMan (mn k) = true := by
    unfold isMan mn
    split <;> simp
  unfold over
  split <;> simp [this]
theorem crash_nil {s : St} (h : s.writes = []) (ks : List Int) : crashS s ks = s := by
  unfold crashS
  rw [h]
  cases s
  simp only at h
  subst h
  simp [undo, redo]
theorem rising_setC {M : List Ob} (h : Rising M) (n : ByteArray) (c : Option ByteArray) : Rising (W.setC n c M) := by
  cases c with
  | none => exact h.filter _
  | some d => exact rising_put h
/-- the store behind a put that was done -/
structure PutIs (n : Int) (b : Bst) (k : Nat) (s s1 : St) : Prop where
  down : s1.down = s.down
  ref : s.refuse = none → s1.refuse = none
  rise : Rising s1.seen
  new : sl n s1 k = ⟨true, b⟩
  old : ∀ j, j ≤ 1 → j ≠ k → sl n s1 j = sl n s j
  cold : ∀ ks j, j ≤ 1 → j ≠ k → sl n (crashS s1 ks) j = sl n s j
  cnew : ∀ ks, sl n (crashS s1 ks) k = sl n s k ∨ sl n (crashS s1 ks) k = noR ∨ sl n (crashS s1 ks) k = ⟨true, b⟩
  crise : ∀ ks, Rising (crashS s1 ks).seen
  cdown : ∀ ks, (crashS s1 ks).down = s.down
  cref : ∀ ks, s.refuse = none → (crashS s1 ks).refuse = none
theorem counted_none {s : St} (h : s.refuse = none) : counted s = (false, s) := by
  unfold counted
  rw [h]
/-- a manifest is put -/
theorem put_is {n : Int} {b : Bst} (hb : mErr b = 0) (hn : b.n = n) {k : Nat} (hk : k ≤ 1) {s : St} (hw : s.writes = []) (hd : s.down = false) (hr : Rising s.seen) :
    ((putS s (mn k) (mdat b)).1 = 53 ∧ s.refuse ≠ none ∧ (putS s (mn k) (mdat b)).2.seen = s.seen ∧ (putS s (mn k) (mdat b)).2.writes = [] ∧ (putS s (mn k) (mdat b)).2.down = false) ∨
    ((putS s (mn k) (mdat b)).1 = 0 ∧ PutIs n b k s (putS s (mn k) (mdat b)).2) := by
  have e : putS s (mn k) (mdat b) = tried s (mn k) (some (mdat b)) := by
    unfold putS
    rw [mn_fine hb k, hd, mn_over]
    simp
  rw [e]
  unfold tried
  by_cases hc : (counted s).1 = true
  · rw [if_pos hc]
    refine .inl ⟨rfl, fun h => ?_, ?_⟩
    · rw [counted_none h] at hc
      cases hc
    · unfold counted at hc ⊢
      split <;> exact ⟨rfl, hw, hd⟩
  · rw [if_neg hc]
    refine .inr ⟨rfl, ?_⟩
    have hs : (counted s).2.seen = s.seen ∧ (counted s).2.writes = s.writes ∧ (counted s).2.down = s.down ∧ (s.refuse = none → (counted s).2.refuse = none) := by
      unfold counted
      split
      · exact ⟨rfl, rfl, rfl, fun h => h⟩
      · rename_i hm
        exact ⟨rfl, rfl, rfl, fun h => absurd (h.symm.trans hm) (by simp)⟩
      · rename_i hm
        exact ⟨rfl, rfl, rfl, fun h => absurd (h.symm.trans hm) (by simp)⟩
    obtain ⟨s1, s2, s3, s4⟩ := hs
    generalize (counted s).2 = t at *
    have ho : ∀ j, j ≤ 1 → j ≠ k → mn j ≠ mn k := fun j hj h => mn_ne hj hk h
    have hl : lookd n (mdat b) = ⟨true, b⟩ := hn ▸ lookd_mk hb
    have hu : undo (W.setC (mn k) (some (mdat b)) t.seen) [⟨mn k, W.look (mn k) t.seen, some (mdat b)⟩] = s.seen := by
      show W.setC (mn k) (W.look (mn k) t.seen) (W.setC (mn k) (some (mdat b)) t.seen) = s.seen
      rw [setC_back (by rw [s1]; exact hr), s1]
    have hc' : ∀ ks, ∃ c, (crashS { t with live := t.live || (some (mdat b)).isSome, seen := W.setC (mn k) (some (mdat b)) t.seen, writes := t.writes ++ [⟨mn k, W.look (mn k) t.seen, some (mdat b)⟩] } ks).seen = c ∧ (c = s.seen ∨ ∃ m : Nat, c = W.setC (mn k) (W.begun (some (mdat b)) m) s.seen) := fun ks => by
      refine ⟨_, rfl, ?_⟩
      unfold crashS
      rw [s2, hw]
      simp only [List.nil_append, List.reverse_cons, List.reverse_nil, List.length_cons, List.length_nil]
      rw [hu]
      show stepK _ ks s.seen 0 = _ ∨ ∃ m : Nat, stepK _ ks s.seen 0 = _
      unfold stepK
      simp only [List.getElem?_cons_zero]
      cases hk0 : ks[0]? with
      | none => exact .inl rfl
      | some z =>
        simp only
        by_cases hz : 0 ≤ z
        · rw [if_pos hz]; exact .inr ⟨_, rfl⟩
        · rw [if_neg hz]; exact .inl rfl
    refine ⟨s3, s4, ?_, ?_, ?_, ?_, ?_, ?_, fun ks => s3, fun ks => s4⟩
    · show Rising (W.setC (mn k) (some (mdat b)) t.seen)
      rw [s1]
      exact rising_setC hr _ _
    · unfold sl
      show (match W.look (mn k) (W.setC (mn k) (some (mdat b)) t.seen) with | some d => lookd n d | none => noR) = _
      rw [look_setC_same (by rw [s1]; exact hr)]
      exact hl
    · intro j hj hjk
      unfold sl
      show (match W.look (mn j) (W.setC (mn k) (some (mdat b)) t.seen) with | some d => lookd n d | none => noR) = _
      rw [look_setC_other (by rw [s1]; exact hr) _ (ho j hj hjk), s1]
    · intro ks j hj hjk
      obtain ⟨c, h1, h2⟩ := hc' ks
      unfold sl
      rw [h1]
      rcases h2 with rfl | ⟨m, rfl⟩
      · rfl
      · rw [look_setC_other hr _ (ho j hj hjk)]
    · intro ks
      obtain ⟨c, h1, h2⟩ := hc' ks
      unfold sl
      rw [h1]
      rcases h2 with rfl | ⟨m, rfl⟩
      · exact .inl rfl
      · rw [look_setC_same hr]
        unfold W.begun
        simp only [Option.map_some]
        by_cases hm : m < (mdat b).size
        · rw [if_pos hm]
          exact .inr (.inl (lookd_cut hb n hm))
        · rw [if_neg hm]
          exact .inr (.inr hl)
    · intro ks
      obtain ⟨c, h1, h2⟩ := hc' ks
      rw [h1]
      rcases h2 with rfl | ⟨m, rfl⟩
      · exact hr
      · exact rising_setC hr _ _
end Go.Proofs.YtmpgfpmkmgebdaaGreatDoor
/- Quorum, no program: what a step leaves of a store; all stores gathered, and gone through. -/
namespace Go.Proofs.YtmpgfpmkmgebdaaGreatDoor
open Go.RowKit Go.Maps
open W
theorem ls_false {a b : Bst} : ls a b = false ↔ (b.e < a.e ∨ (b.e = a.e ∧ b.g ≤ a.g)) := by
  unfold ls F.lessB
  simp only [Bool.or_eq_false_iff, Bool.and_eq_false_iff, decide_eq_false_iff_not]
  omega
theorem ls_true {a b : Bst} : ls a b = true ↔ (a.e < b.e ∨ (a.e = b.e ∧ a.g < b.g)) := by
  unfold ls F.lessB
  simp only [Bool.or_eq_true, Bool.and_eq_true, decide_eq_true_eq]
/-- all that could be found in a store is of R; if it is not suspect it answers, refuses nothing, and has, whatever survives, something that is not less than each of D -/
structure InvS (n : Int) (R D : Bst → Prop) (x : Kp) : Prop where
  rep : ∀ ks b, Stands n (crashS x.st ks) b → R b
  top : x.sus = false → ∀ ks t, D t → ∃ b, Stands n (crashS x.st ks) b ∧ ls b t = false
  up : x.sus = false → x.st.down = false ∧ x.st.refuse = none
  rise : Rising x.st.seen
  crise : ∀ ks, Rising (crashS x.st ks).seen
theorem sl_seen {n : Int} {s t : St} (h : s.seen = t.seen) (k : Nat) : sl n s k = sl n t k := by
  unfold sl
  rw [h]
theorem stands_seen {n : Int} {s t : St} {b : Bst} (h : s.seen = t.seen) : Stands n s b ↔ Stands n t b := by
  unfold Stands
  rw [sl_seen h, sl_seen h]
/-- a store without writes -/
theorem InvS.of {n : Int} {R D : Bst → Prop} {x : Kp} (hw : x.st.writes = []) (h1 : ∀ b, Stands n x.st b → R b) (h2 : x.sus = false → ∀ t, D t → ∃ b, Stands n x.st b ∧ ls b t = false) (h3 : x.sus = false → x.st.down = false ∧ x.st.refuse = none) (h4 : Rising x.st.seen) : InvS n R D x :=
  ⟨fun ks b h => h1 b (by rw [crash_nil hw] at h; exact h), fun hs ks t ht => by rw [crash_nil hw]; exact h2 hs t ht, h3, h4, fun ks => by rw [crash_nil hw]; exact h4⟩
theorem InvS.now {n : Int} {R D : Bst → Prop} {x : Kp} (h : InvS n R D x) (hw : x.st.writes = []) : (∀ b, Stands n x.st b → R b) ∧ (x.sus = false → ∀ t, D t → ∃ b, Stands n x.st b ∧ ls b t = false) :=
  ⟨fun b hb => h.rep [] b (by rw [crash_nil hw]; exact hb), fun hs t ht => by have := h.top hs [] t ht; rw [crash_nil hw] at this; exact this⟩
/-- what a step makes of a store -/
def Step (n : Int) (R D : Bst → Prop) (Q : St → Prop) (i : Nat) (x : Kp) (V : Wd) (r : Int × Hd × Wd) : Prop := ∃ s', r.2.2.l = V.l.set i { x with st := s' } ∧ InvS n R D { x with st := s' } ∧
  ((r.1 = 56 ∧ r.2.2.dark = true) ∨ (r.1 ≠ 56 ∧ r.2.2.dark = false ∧ s'.writes = [] ∧ r.2.1 = hdOf n s' ∧ (x.sus = false → r.1 = 0) ∧ (r.1 = 0 → Q s')))
/-- a store that was synced -/
def syn (s : St) : St := { s with writes := [] }
theorem ask_lit {V : Wd} {i : Nat} {x : Kp} (hx : V.l[i]? = some x) (f : St → Int × St) :
    ((askS V (i : Int) f).1 = 56 ∧ (askS V (i : Int) f).2.dark = true ∧ (askS V (i : Int) f).2.l = V.l) ∨
    ((askS V (i : Int) f).1 = (f x.st).1 ∧ (askS V (i : Int) f).2.dark = false ∧ (askS V (i : Int) f).2.l = V.l.set i { x with st := (f x.st).2 }) := by
  have hi : i < V.l.length := (List.getElem?_eq_some_iff.1 hx).1
  unfold askS
  rw [if_pos (by omega)]
  cases hd : (countW V).dark with
  | true => exact .inl ⟨by simp, by simpa using hd, by simp [countW_l]⟩
  | false =>
    have : (countW V).l[(i : Int).toNat]? = some x := by rw [countW_l]; simpa using hx
    simp only [this]
    exact .inr ⟨by simp, by simpa using hd, by simp [countW_l]⟩
theorem get_lit {V : Wd} {i : Nat} {x : Kp} (hx : V.l[i]? = some x) (n : ByteArray) :
    ((getW V (i : Int) n).2 = 56 ∧ (askW V (i : Int)).dark = true ∧ (askW V (i : Int)).l = V.l) ∨
    (getW V (i : Int) n = W.get x.st n ∧ (askW V (i : Int)).dark = false ∧ (askW V (i : Int)).l = V.l) := by
  have hi : i < V.l.length := (List.getElem?_eq_some_iff.1 hx).1
  have hc : 0 ≤ (i : Int) ∧ (i : Int) < (V.l.length : Int) := by omega
  simp only [getW, askW, if_pos hc]
  cases hd : (countW V).dark with
  | true => exact .inl ⟨by simp, rfl, countW_l V⟩
  | false =>
    have : (countW V).l[(i : Int).toNat]? = some x := by rw [countW_l]; simpa using hx
    simp only [this]
    exact .inr ⟨by simp, trivial, countW_l V⟩
theorem get_not_cut (s : St) (n : ByteArray) : (W.get s n).2 ≠ 56 := by
  unfold W.get
  split
  · simp
  · split <;> simp
theorem set_same {l : List Kp} {i : Nat} {x : Kp} (h : l[i]? = some x) : l.set i { x with st := x.st } = l := by
  obtain ⟨h1, h2⟩ := List.getElem?_eq_some_iff.1 h
  show l.set i x = l
  rw [← h2, List.set_getElem_self]
theorem hdOf_up {n : Int} {s : St} (h : s.down = false) : hdOf n s = ⟨true, sl n s 0, sl n s 1⟩ := by
  unfold hdOf
  rw [h]
  rfl
theorem slt_le (oe og : Int) (h : Hd) : slt oe og h ≤ 1 := by
  unfold slt
  repeat' split
  all_goals omega
/-- the other slot holds something that is not less than each of D -/
def Safe (n : Int) (D : Bst → Prop) (oe og : Int) (s : St) : Prop := ∀ t, D t → ∃ c, sl n s (1 - slt oe og (hdOf n s)) = ⟨true, c⟩ ∧ ls c t = false
theorem stands_of {n : Int} {s : St} {k : Nat} {b : Bst} (hk : k ≤ 1) (h : sl n s k = ⟨true, b⟩) : Stands n s b := by
  rcases (by omega : k = 0 ∨ k = 1) with rfl | rfl
  · exact .inl h
  · exact .inr h
theorem putD_step {n : Int} {R D : Bst → Prop} {b : Bst} (hb : mErr b = 0) (hn : b.n = n) (hR : R b) (oe og : Int) {i : Nat} {x : Kp} {V : Wd} (hx : V.l[i]? = some x) (hd : x.st.down = false) (hw : x.st.writes = []) (hI : InvS n R D x) (hS : x.sus = false → Safe n D oe og x.st) :
    Step n R D (fun s => Stands n s b) i x V (putD b oe og i (hdOf n x.st) V) := by
  have hk := slt_le oe og (hdOf n x.st)
  unfold putD
  simp only
  unfold Safe at hS
  generalize slt oe og (hdOf n x.st) = k at *
  rcases ask_lit hx (fun s => putS s (mn k) (mdat b)) with ⟨a1, a2, a3⟩ | ⟨a1, a2, a3⟩
  · rw [if_pos a1]
    exact ⟨x.st, by rw [set_same hx]; exact a3, hI, .inl ⟨rfl, a2⟩⟩
  · have hne : (putS x.st (mn k) (mdat b)).1 ≠ 56 := by
      rcases put_is hb hn hk hw hd hI.rise with ⟨p1, _⟩ | ⟨p1, _⟩ <;> rw [p1] <;> decide
    rw [if_neg (by rw [a1]; exact hne)]
    generalize askS V (i : Int) (fun s => putS s (mn k) (mdat b)) = a at *
    obtain ⟨ae, aV⟩ := a
    simp only at a1 a2 a3 ⊢
    have hi : i < V.l.length := (List.getElem?_eq_some_iff.1 hx).1
    have hx1 : aV.l[i]? = some { x with st := (putS x.st (mn k) (mdat b)).2 } := by
      rw [a3, List.getElem?_set_self hi]
    have hset : ∀ s', aV.l.set i { x with st := s' } = V.l.set i { x with st := s' } := fun s' => by rw [a3, List.set_set]
    have hok : InvS n R D { x with st := (putS x.st (mn k) (mdat b)).2 } ∧ InvS n R D { x with st := (syn (putS x.st (mn k) (mdat b)).2) } ∧ (putS x.st (mn k) (mdat b)).2.down = false ∧ (x.sus = false → ae = 0) ∧ (if ae = 0 then setR (hdOf n x.st) k ⟨true, b⟩ else hdOf n x.st) = hdOf n (syn (putS x.st (mn k) (mdat b)).2) ∧ (ae = 0 → Stands n (syn (putS x.st (mn k) (mdat b)).2) b) ∧ ae ≠ 56 := by
      have hnow := hI.now hw
      rcases put_is hb hn hk hw hd hI.rise with ⟨p1, p2, p3, p4, p5⟩ | ⟨p1, P⟩
      · have hsus : x.sus = false → False := fun hs => p2 (hI.up hs).2
        have h1 : InvS n R D { x with st := (putS x.st (mn k) (mdat b)).2 } := InvS.of p4 (fun c hc => hnow.1 c ((stands_seen p3).1 hc)) (fun hs => (hsus hs).elim) (fun hs => (hsus hs).elim) (by show Rising (putS x.st (mn k) (mdat b)).2.seen; rw [p3]; exact hI.rise)
        have h2 : InvS n R D { x with st := (syn (putS x.st (mn k) (mdat b)).2) } := InvS.of rfl (fun c hc => hnow.1 c ((stands_seen p3).1 hc)) (fun hs => (hsus hs).elim) (fun hs => (hsus hs).elim) (by show Rising (putS x.st (mn k) (mdat b)).2.seen; rw [p3]; exact hI.rise)
        have e0 : ae ≠ 0 := by rw [a1, p1]; decide
        refine ⟨h1, h2, p5, fun hs => (hsus hs).elim, ?_, fun h => absurd h e0, by rw [a1, p1]; decide⟩
        rw [if_neg e0, hdOf_up hd, hdOf_up (show (syn (putS x.st (mn k) (mdat b)).2).down = false from p5)]
        have : ∀ j, sl n (syn (putS x.st (mn k) (mdat b)).2) j = sl n x.st j := fun j => sl_seen p3 j
        rw [this, this]
      · have e0 : ae = 0 := by rw [a1, p1]
        have hdn : (putS x.st (mn k) (mdat b)).2.down = false := P.down.trans hd
        have hR' : ∀ j c, j ≤ 1 → sl n x.st j = ⟨true, c⟩ → R c := fun j c hj hc => hnow.1 c (stands_of hj hc)
        have hj1 : (1 - k : Nat) ≤ 1 ∧ (1 - k : Nat) ≠ k := by omega
        refine ⟨⟨fun ks c hc => ?_, fun hs ks t ht => ?_, fun hs => ⟨hdn, P.ref (hI.up hs).2⟩, P.rise, P.crise⟩, InvS.of rfl (fun c hc => ?_) (fun hs t ht => ?_) (fun hs => ⟨hdn, P.ref (hI.up hs).2⟩) P.rise, hdn, fun _ => e0, ?_, fun _ => stands_of hk P.new, by rw [e0]; decide⟩
        · have : ∀ j, j ≤ 1 → sl n (crashS (putS x.st (mn k) (mdat b)).2 ks) j = ⟨true, c⟩ → R c := fun j hj hc => by
            by_cases hjk : j = k
            · subst hjk
              rcases P.cnew ks with h | h | h
              · exact hR' j c hj (h.symm.trans hc)
              · rw [h] at hc; cases hc
              · rw [h] at hc; cases hc; exact hR
            · exact hR' j c hj ((P.cold ks j hj hjk).symm.trans hc)
          rcases hc with hc | hc
          · exact this 0 (by omega) hc
          · exact this 1 (by omega) hc
        · obtain ⟨c, c1, c2⟩ := hS hs t ht
          exact ⟨c, stands_of hj1.1 ((P.cold ks _ hj1.1 hj1.2).trans c1), c2⟩
        · have : ∀ j, j ≤ 1 → sl n (putS x.st (mn k) (mdat b)).2 j = ⟨true, c⟩ → R c := fun j hj hc => by
            by_cases hjk : j = k
            · subst hjk
              rw [P.new] at hc; cases hc; exact hR
            · exact hR' j c hj ((P.old j hj hjk).symm.trans hc)
          rcases hc with hc | hc
          · exact this 0 (by omega) hc
          · exact this 1 (by omega) hc
        · obtain ⟨c, c1, c2⟩ := hS hs t ht
          exact ⟨c, stands_of hj1.1 ((P.old _ hj1.1 hj1.2).trans c1), c2⟩
        · rw [if_pos e0, hdOf_up hd, hdOf_up (show (syn (putS x.st (mn k) (mdat b)).2).down = false from hdn)]
          have o0 := P.old
          have o1 := P.new
          have hsl : ∀ j, sl n (syn (putS x.st (mn k) (mdat b)).2) j = sl n (putS x.st (mn k) (mdat b)).2 j := fun j => rfl
          rw [hsl, hsl]
          rcases (by omega : k = 0 ∨ k = 1) with rfl | rfl
          · rw [o1, o0 1 (by omega) (by omega)]; rfl
          · rw [o1, o0 0 (by omega) (by omega)]; rfl
    obtain ⟨k1, k2, k3, k4, k5, k6, k7⟩ := hok
    rcases ask_lit hx1 W.sync with ⟨c1, c2, c3⟩ | ⟨c1, c2, c3⟩
    · rw [if_neg (by rw [c1]; decide)]
      exact ⟨_, by rw [← hset]; show (askS aV (i : Int) W.sync).2.l = _; rw [c3, set_same hx1], k1, .inl ⟨c1, c2⟩⟩
    · have hs : W.sync (putS x.st (mn k) (mdat b)).2 = (0, (syn (putS x.st (mn k) (mdat b)).2)) := by
        unfold W.sync syn
        rw [if_neg (by rw [k3]; decide)]
      have c0 : (askS aV (i : Int) W.sync).1 = 0 := by rw [c1]; show (W.sync (putS x.st (mn k) (mdat b)).2).1 = 0; rw [hs]
      rw [if_pos c0]
      refine ⟨(syn (putS x.st (mn k) (mdat b)).2), ?_, k2, .inr ⟨k7, c2, rfl, k5, k4, k6⟩⟩
      rw [← hset]
      show (askS aV (i : Int) W.sync).2.l = _
      rw [c3]
      show aV.l.set i { x with st := (W.sync (putS x.st (mn k) (mdat b)).2).2 } = _
      rw [hs]
end Go.Proofs.YtmpgfpmkmgebdaaGreatDoor
