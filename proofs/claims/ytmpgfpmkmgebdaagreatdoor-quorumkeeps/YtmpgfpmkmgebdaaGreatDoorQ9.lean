/- Quorum, no program: Read, Write, Mend, Init; a crash, a fault, a clearing. -/
import Derived.Test.YtmpgfpmkmgebdaaGreatDoorQ6
import Derived.Test.YtmpgfpmkmgebdaaGreatDoorP3
namespace Go.Proofs.YtmpgfpmkmgebdaaGreatDoor
open Go.RowKit Go.Maps
open W
variable {n k : Int} {fl : Bst} {yo : Option ByteArray} {B : Int} {R : Bst → Prop} {V : Wd}
/-- Read -/
theorem read_is (hS : Sane n k V) (hL : Lt V) (hF : FInv n k fl yo B R V) : (readW V).2.2.l = V.l ∧
    (((readW V).1 = 56 ∧ (readW V).2.2.dark = true) ∨ ((readW V).1 = 0 ∧ (readW V).2.2.dark = false ∧ ((readW V).2.1.p = fl.p ∨ yo = some (readW V).2.1.p))) := by
  rcases gathW_is hS.len hL.1 with ⟨g1, g2, g3⟩ | ⟨g1, g2, g3, g4⟩
  · have ho : readW V = (56, zB, (gathW V).2.1) := by
      unfold readW findW
      simp only [g1]
      rfl
    rw [ho]
    exact ⟨g3, .inl ⟨rfl, g2⟩⟩
  · obtain ⟨f, hf⟩ := found_is (V := (gathW V).2.1) (hS.of (by rw [g3])) (hL.l g2 g3) (hF.l g3)
    have ho : readW V = (0, f, (gathW V).2.1) := by
      have e1 := hf.e0
      have e2 := hf.sd
      rw [g3] at e1 e2
      have e3 : (findW V).1 = 0 := by
        unfold findW
        rw [if_pos g1, g4]
        exact e1
      have e4 : (findW V).2.2 = V.l.map fun x => hdOf n x.st := g4
      unfold readW
      simp only
      rw [if_neg (by rw [e3]; decide), e4, e2]
      rfl
    rw [ho]
    refine ⟨g3, .inr ⟨rfl, g2, ?_⟩⟩
    show f.p = fl.p ∨ yo = some f.p
    rcases hf.body with ⟨_, h⟩ | ⟨y, y1, _, y2⟩
    · exact .inl h
    · exact .inr (by rw [y1, y2])
theorem Bst.eq {a b : Bst} (h1 : a.e = b.e) (h2 : a.g = b.g) (h3 : a.k = b.k) (h4 : a.n = b.n) (h5 : a.p = b.p) : a = b := by
  cases a
  cases b
  simp only at *
  subst h1 h2 h3 h4 h5
  rfl
/-- what counts stands in each store that is not suspect -/
theorem OInv.stands (hO : OInv n k fl B R V) (hL : Lt V) {x : Kp} (hx : x ∈ V.l) (hs : x.sus = false) : Stands n x.st fl := by
  have hI := hO.f.inv x hx
  obtain ⟨h1, h2⟩ := hI.now (hL.2 x hx)
  obtain ⟨c, c1, c2⟩ := h2 hs fl (.inl ⟨rfl, rfl⟩)
  have hR := h1 c c1
  have h3 := hO.le c hR
  obtain ⟨g1, g2⟩ := hO.f.good c hR c2
  rw [ls_false] at c2 h3
  have hp : c.p = fl.p := by
    rcases g2 with ⟨_, h⟩ | ⟨y, hy, _⟩
    · exact h
    · cases hy
  have : c = fl := Bst.eq (by omega) (by omega) (g1.trans hO.fk.symm) (c1.ok.2.trans hO.fn.symm) hp
  rw [← this]
  exact c1
theorem OInv.dm (hO : OInv n k fl B R V) {t : Bst} (ht : Dm R fl t) : ls fl t = false := by
  rcases ht with ht | ⟨b, b1, b2, b3, b4⟩
  · rw [ls_false]; omega
  · have := hO.le b b1
    rw [ls_false] at this
    omega
/-- a manifest that was put everywhere is what counts -/
theorem OInv.new {d : Bst} {R' D : Bst → Prop} {B' : Int} (hok : mErr d = 0) (hk : d.k = k) (hn : d.n = n) (hb : d.e ≤ B' ∧ d.g ≤ B') (hL : Lt V) (hI : ∀ x ∈ V.l, InvS n R' D x) (hs : ∀ x ∈ V.l, x.sus = false → Stands n x.st d) (hle : ∀ c, R' c → c = d ∨ ls c d = true) (hsm : ∀ c, R' c → c.e ≤ B' ∧ c.g ≤ B') (hps : ∀ c, R' c → 0 ≤ c.e ∧ 0 ≤ c.g) : OInv n k d B' R' V := by
  have hle' : ∀ c, R' c → ls d c = false := fun c hc => by
    rcases hle c hc with rfl | h
    · exact ls_self _
    · rw [ls_true] at h
      rw [ls_false]
      omega
  refine ⟨⟨fun c hc hl => ?_, hsm, hps, fun x hx => inv_mono (hI x hx) (hL.2 x hx) (fun _ h => h) fun hx' t ht => ⟨d, hs x hx hx', ?_⟩⟩, hle', hok, hk, hn, hb⟩
  · rcases hle c hc with rfl | h
    · exact ⟨hk, .inl ⟨rfl, rfl⟩⟩
    · rw [h] at hl
      cases hl
  · rcases ht with ht | ⟨b, b1, b2, b3, b4⟩
    · rw [ls_false]; omega
    · have := hle' b b1
      rw [ls_false] at this
      omega
/-- Write -/
theorem write_is (hS : Sane n k V) (hL : Lt V) (hO : OInv n k fl B R V) (hB : B < 2147483647) {p : ByteArray} (hp : p.size ≤ 65486) :
    ((writeW V fl p).1 = 56 ∧ (writeW V fl p).2.2.dark = true ∧ Sane n k (writeW V fl p).2.2 ∧ ∃ R', FInv n k fl (some p) (B + 1) R' (writeW V fl p).2.2) ∨
    ((writeW V fl p).1 = 0 ∧ (writeW V fl p).2.1.p = p ∧ Lt (writeW V fl p).2.2 ∧ Sane n k (writeW V fl p).2.2 ∧ ∃ R', OInv n k (writeW V fl p).2.1 (B + 1) R' (writeW V fl p).2.2) := by
  have h1 := F.mkE_zero.1 hO.ok
  obtain ⟨fe, fg, fk, fn, f1, f2, f3, f4, f5, f6, f7, f8, f9⟩ := F.okF_is h1.1
  have hfb := hO.fb
  have hmay : mayP V { fl with p := p } = 0 := by
    unfold mayP
    rw [if_pos (by show fl.n = _; rw [hO.fn, hS.len])]
    exact F.mkE_zero.2 ⟨h1.1, hp⟩
  obtain ⟨d, hd⟩ : ∃ d : Bst, d = { fl with p := p, g := fl.g + 1 } := ⟨_, rfl⟩
  have d1 : d.e = fl.e ∧ d.g = fl.g + 1 ∧ d.k = k ∧ d.n = n ∧ d.p = p := by
    rw [hd]
    exact ⟨rfl, rfl, hO.fk, hO.fn, rfl⟩
  have dok : mErr d = 0 := by
    have h3 := h1.1
    unfold mErr
    rw [hd]
    refine F.mkE_zero.2 ⟨?_, hp⟩
    unfold F.okF F.okN at h3 ⊢
    simp only [Bool.and_eq_true, decide_eq_true_eq] at h3 ⊢
    exact ⟨⟨h3.1.1, ⟨by show 0 ≤ fl.g + 1; omega, by show fl.g + 1 ≤ 2147483647; omega⟩⟩, h3.2⟩
  have hyes : ∀ b, R b → ls b fl = false → b.k = k ∧ ((b.g = fl.g ∧ b.p = fl.p) ∨ ∃ y, some p = some y ∧ b.g = fl.g + 1 ∧ b.p = y) := fun b hb hl => by
    obtain ⟨a1, a2⟩ := hO.f.good b hb hl
    refine ⟨a1, ?_⟩
    rcases a2 with a2 | ⟨y, hy, _⟩
    · exact .inl a2
    · cases hy
  have ho : writeW V fl p = if (gathW V).1 ≠ 0 then ((gathW V).1, zB, (gathW V).2.1) else if ((idx 0 (gathW V).2.2).length : Int) < d.k then (55, zB, (gathW V).2.1) else sprW (gathW V).2.2 d fl.e fl.g (gathW V).2.1 := by
    unfold writeW
    simp only
    rw [if_neg (by rw [hmay]; decide), if_neg (by omega), hd]
  rw [ho]
  rcases gathW_is hS.len hL.1 with ⟨g1, g2, g3⟩ | ⟨g1, g2, g3, g4⟩
  · rw [if_pos (by rw [g1]; decide), g1]
    exact .inl ⟨rfl, g2, hS.of (by rw [g3]), R, hyes, fun b hb => by have := hO.f.small b hb; omega, hO.f.pos, by show ∀ x ∈ (gathW V).2.1.l, _; rw [g3]; exact hO.f.inv⟩
  · have hS1 : Sane n k (gathW V).2.1 := hS.of (by rw [g3])
    have hL1 : Lt (gathW V).2.1 := hL.l g2 g3
    have hO1 : OInv n k fl B R (gathW V).2.1 := hO.l g3
    have hm := idx_many hS1 hO1.f
    rw [if_neg (by rw [g1]; decide), g4, ← g3, if_neg (by rw [d1.2.2.1]; omega)]
    clear ho g4
    generalize (gathW V).2.1 = V1 at *
    obtain ⟨R', hR'⟩ : ∃ R' : Bst → Prop, R' = fun c => R c ∨ c = d := ⟨_, rfl⟩
    have hD' : ∀ t, Dm R' fl t → ls fl t = false := fun t ht => by
      rcases ht with ht | ⟨b, b1, b2, b3, b4⟩
      · exact hO1.dm (.inl ht)
      · rw [hR'] at b1
        rcases b1 with b1 | b1
        · exact hO1.dm (.inr ⟨b, b1, b2, b3, b4⟩)
        · subst b1
          omega
    have hI2 : ∀ x ∈ V1.l, InvS n R' (Dm R' fl) x := fun x hx => inv_mono (hO1.f.inv x hx) (hL1.2 x hx) (fun b hb => by rw [hR']; exact .inl hb) fun hs t ht => ⟨fl, hO1.stands hL1 hx hs, hD' t ht⟩
    have hph := phaseW (Q := fun s => Stands n s d) (f := putD d fl.e fl.g) hL1 hI2 (fun x hx i V' _ hx' hd' hw hI => putD_step dok d1.2.2.2.1 (by rw [hR']; exact .inr rfl) fl.e fl.g hx' hd' hw hI fun hs => safe_base hd' (hO1.stands hL1 hx hs) hD')
    unfold sprW
    simp only
    generalize eachE (putD d fl.e fl.g) (V1.l.map fun x => hdOf n x.st) V1 = s2 at *
    have hsm : ∀ c, R' c → c.e ≤ B + 1 ∧ c.g ≤ B + 1 := fun c hc => by
      rw [hR'] at hc
      rcases hc with hc | rfl
      · have := hO1.f.small c hc; omega
      · omega
    have hps : ∀ c, R' c → 0 ≤ c.e ∧ 0 ≤ c.g := fun c hc => by
      rw [hR'] at hc
      rcases hc with hc | rfl
      · exact hO1.f.pos c hc
      · omega
    obtain ⟨r1, r2, r3⟩ := hph
    rcases r3 with ⟨c1, c2⟩ | ⟨c1, c2, c3, c4, c5, c6, _⟩
    · have he2 : enoE s2 d.k = 56 := by
        unfold enoE
        rw [if_pos c1]
      rw [if_neg (by rw [he2]; decide), he2]
      refine .inl ⟨rfl, c2, hS1.of r1, R', fun b hb hl => ?_, hsm, hps, r2⟩
      rw [hR'] at hb
      rcases hb with hb | rfl
      · exact hyes b hb hl
      · exact ⟨d1.2.2.1, .inr ⟨p, rfl, d1.2.1, d1.2.2.2.2⟩⟩
    · have hmost := hS1.most
      have he2 : enoE s2 d.k = 0 := by
        unfold enoE
        rw [if_neg (by rw [c1]; decide), if_neg]
        rw [d1.2.2.1]
        omega
      rw [if_pos he2]
      show _ ∨ ((0 : Int) = 0 ∧ d.p = p ∧ Lt s2.V ∧ Sane n k s2.V ∧ ∃ R', OInv n k d (B + 1) R' s2.V)
      refine .inr ⟨rfl, d1.2.2.2.2, c2, hS1.of r1, R', OInv.new dok d1.2.2.1 d1.2.2.2.1 ⟨by omega, by omega⟩ c2 r2 c4 (fun c hc => ?_) hsm hps⟩
      rw [hR'] at hc
      rcases hc with hc | rfl
      · right
        have := hO1.le c hc
        rw [ls_false] at this
        rw [ls_true]
        omega
      · exact .inl rfl
theorem mndD_step {D : Bst → Prop} {b : Bst} (hb : mErr b = 0) (hn : b.n = n) (hR : R b) {i : Nat} {x : Kp} {V : Wd} (hV : V.dark = false) (hx : V.l[i]? = some x) (hd : x.st.down = false) (hw : x.st.writes = []) (hI : InvS n R D x) (hs : x.sus = false → Stands n x.st b) :
    Step n R D (fun s => Stands n s b) i x V (mndD b i (hdOf n x.st) V) := by
  have key : hasB (hdOf n x.st) b = true ↔ Stands n x.st b := by
    unfold hasB Stands
    rw [hdOf_up hd]
    simp
  unfold mndD
  by_cases hh : hasB (hdOf n x.st) b = true
  · rw [if_pos hh]
    exact ⟨x.st, (set_same hx).symm, hI, .inr ⟨by show (0 : Int) ≠ 56; decide, hV, hw, rfl, fun _ => rfl, fun _ => key.1 hh⟩⟩
  · rw [if_neg hh]
    exact putD_step hb hn hR b.e b.g hx hd hw hI fun hx' => absurd (key.2 (hs hx')) hh
end Go.Proofs.YtmpgfpmkmgebdaaGreatDoor
/- Quorum, no program: Mend and a clearing, a crash, a fault, Init. -/
namespace Go.Proofs.YtmpgfpmkmgebdaaGreatDoor
open Go.RowKit Go.Maps
open W
variable {n k : Int} {fl : Bst} {yo : Option ByteArray} {B : Int} {R : Bst → Prop} {V : Wd}
theorem clear_count (l : List Kp) : ((l.map clearK).countP fun x => x.sus) ≤ l.countP fun x => x.sus := by
  rw [List.countP_map]
  refine List.countP_mono_left fun x _ h => ?_
  simp only [Function.comp] at h
  unfold clearK at h
  split at h
  · cases h
  · exact h
/-- Mend, and Clear behind one that was OK -/
theorem mend_is (hS : Sane n k V) (hL : Lt V) (hO : OInv n k fl B R V) :
    ((mendW V fl).1 = 56 ∧ (mendW V fl).2.dark = true ∧ Sane n k (mendW V fl).2 ∧ FInv n k fl none B R (mendW V fl).2) ∨
    ((mendW V fl).1 = 53 ∧ Lt (mendW V fl).2 ∧ Sane n k (mendW V fl).2 ∧ OInv n k fl B R (mendW V fl).2) ∨
    ((mendW V fl).1 = 0 ∧ Lt (clearW (mendW V fl).2) ∧ Sane n k (clearW (mendW V fl).2) ∧ OInv n k fl B R (clearW (mendW V fl).2)) := by
  have hmay : mayP V fl = 0 := by
    unfold mayP
    rw [if_pos (by rw [hO.fn, hS.len])]
    exact hO.ok
  have ho : mendW V fl = if (gathW V).1 ≠ 0 then ((gathW V).1, (gathW V).2.1) else (enoE (eachE (mndD fl) (gathW V).2.2 (gathW V).2.1) (gathW V).2.2.length, (eachE (mndD fl) (gathW V).2.2 (gathW V).2.1).V) := by
    unfold mendW
    simp only
    rw [if_neg (by rw [hmay]; decide)]
  rw [ho]
  rcases gathW_is hS.len hL.1 with ⟨g1, g2, g3⟩ | ⟨g1, g2, g3, g4⟩
  · rw [if_pos (by rw [g1]; decide), g1]
    exact .inl ⟨rfl, g2, hS.of (by rw [g3]), hO.f.l g3⟩
  · have hS1 : Sane n k (gathW V).2.1 := hS.of (by rw [g3])
    have hL1 : Lt (gathW V).2.1 := hL.l g2 g3
    have hO1 : OInv n k fl B R (gathW V).2.1 := hO.l g3
    rw [if_neg (by rw [g1]; decide), g4, ← g3]
    clear ho g4
    generalize (gathW V).2.1 = V1 at *
    have hR : R fl := by
      obtain ⟨x, hx, hs⟩ := hS1.one
      exact ((hO1.f.inv x hx).now (hL1.2 x hx)).1 _ (hO1.stands hL1 hx hs)
    have hph := phaseW (Q := fun s => Stands n s fl) (f := mndD fl) hL1 hO1.f.inv (fun x hx i V' hd0 hx' hd' hw hI => mndD_step hO1.ok hO1.fn hR hd0 hx' hd' hw hI fun hs => hO1.stands hL1 hx hs)
    rw [List.length_map]
    generalize eachE (mndD fl) (V1.l.map fun x => hdOf n x.st) V1 = s2 at *
    obtain ⟨r1, r2, r3⟩ := hph
    have hS2 := hS1.of r1
    have hF2 : FInv n k fl none B R s2.V := ⟨hO1.f.good, hO1.f.small, hO1.f.pos, r2⟩
    have hO2 : OInv n k fl B R s2.V := ⟨hF2, hO1.le, hO1.ok, hO1.fk, hO1.fn, hO1.fb⟩
    rcases r3 with ⟨c1, c2⟩ | ⟨c1, c2, c3, c4, c5, c6, c7⟩
    · have he2 : enoE s2 V1.l.length = 56 := by
        unfold enoE
        rw [if_pos c1]
      rw [he2]
      exact .inl ⟨rfl, c2, hS2, hF2⟩
    · by_cases hd : (s2.dn : Int) < V1.l.length
      · have he2 : enoE s2 V1.l.length = 53 := by
          unfold enoE
          rw [if_neg (by rw [c1]; decide), if_pos hd]
        rw [he2]
        exact .inr (.inl ⟨rfl, c2, hS2, hO2⟩)
      · have he2 : enoE s2 V1.l.length = 0 := by
          unfold enoE
          rw [if_neg (by rw [c1]; decide), if_neg hd]
        rw [he2]
        have hall := c7 (by omega)
        refine .inr (.inr ⟨rfl, ⟨c2.1, fun x hx => ?_⟩, ⟨?_, hS2.k1, hS2.kn, hS2.two, ?_⟩, ⟨hO1.f.good, hO1.f.small, hO1.f.pos, fun x hx => ?_⟩, hO1.le, hO1.ok, hO1.fk, hO1.fn, hO1.fb⟩)
        · obtain ⟨y, hy, rfl⟩ := List.mem_map.1 (show x ∈ s2.V.l.map clearK from hx)
          unfold clearK
          split <;> exact c2.2 y hy
        · show ((s2.V.l.map clearK).length : Int) = n
          rw [List.length_map]
          exact hS2.len
        · have h1 := clear_count s2.V.l
          have h2 := hS2.few
          show (((s2.V.l.map clearK).countP fun x => x.sus : Nat) : Int) ≤ n - k
          omega
        · obtain ⟨y, hy, rfl⟩ := List.mem_map.1 (show x ∈ s2.V.l.map clearK from hx)
          unfold clearK
          split
          · rename_i hsd
            unfold soundK at hsd
            simp only [Bool.and_eq_true, Bool.not_eq_true', Option.isNone_iff_eq_none] at hsd
            exact InvS.of (c2.2 y hy) ((r2 y hy).now (c2.2 y hy)).1 (fun _ t ht => ⟨fl, hall y hy, hO1.dm ht⟩) (fun _ => hsd) (r2 y hy).rise
          · exact r2 y hy
/-- a crash -/
theorem crash_is (hS : Sane n k V) (hF : FInv n k fl yo B R V) (sv : List Sv) : Sane n k (crashW V sv) ∧ Lt (crashW V sv) ∧ FInv n k fl yo B R (crashW V sv) := by
  have hm : ∀ x ∈ (crashW V sv).l, ∃ y ∈ V.l, ∃ ks, x = { y with st := crashS y.st ks } := fun x hx => by
    obtain ⟨i, hi⟩ := List.getElem?_of_mem (show x ∈ V.l.mapIdx (crashK sv) from hx)
    rw [List.getElem?_mapIdx] at hi
    obtain ⟨y, hy, rfl⟩ := Option.map_eq_some_iff.1 hi
    exact ⟨y, List.mem_of_getElem? hy, keepOf sv i, rfl⟩
  refine ⟨hS.of ?_, ⟨rfl, fun x hx => ?_⟩, hF.good, hF.small, hF.pos, fun x hx => ?_⟩
  · show (V.l.mapIdx (crashK sv)).map (·.sus) = _
    apply List.ext_getElem?
    intro i
    rw [List.getElem?_map, List.getElem?_mapIdx, List.getElem?_map]
    cases V.l[i]? <;> rfl
  · obtain ⟨y, hy, ks, rfl⟩ := hm x hx
    rfl
  · obtain ⟨y, hy, ks, rfl⟩ := hm x hx
    have h := hF.inv y hy
    exact InvS.of rfl (h.rep ks) (fun hs => h.top hs ks) h.up (h.crise ks)
theorem count_set : ∀ (l : List Kp) (i : Nat) (x y : Kp), l[i]? = some x → ((l.set i y).countP fun x => x.sus) + (if x.sus then 1 else 0) = (l.countP fun x => x.sus) + (if y.sus then 1 else 0)
  | [], i, x, y, h => by simp at h
  | z :: t, 0, x, y, h => by
    simp at h
    subst h
    rw [List.set_cons_zero, List.countP_cons, List.countP_cons]
    omega
  | z :: t, i + 1, x, y, h => by
    rw [List.set_cons_succ, List.countP_cons, List.countP_cons]
    have := count_set t i x y (by simpa using h)
    omega
/-- a fault that forges nothing -/
theorem strike_is (hS : Sane n k V) (hL : Lt V) (hF : FInv n k fl yo B R V) {q t m a c : Int} (hno : ∀ x, 0 ≤ t → V.l[t.toNat]? = some x → ∀ b, Stands n (strikeS x.st q m a c).2 b → Stands n x.st b)
    (hfew : q = 5 ∨ q = 7 ∨ ((V.l.countP fun x => x.sus : Nat) : Int) < n - k ∨ ∃ x, V.l[t.toNat]? = some x ∧ x.sus = true) : Sane n k (strikeW V q t m a c).2 ∧ Lt (strikeW V q t m a c).2 ∧ FInv n k fl yo B R (strikeW V q t m a c).2 := by
  unfold strikeW
  by_cases ht : 0 ≤ t ∧ t < (V.l.length : Int)
  · rw [if_pos ht]
    obtain ⟨x, hx⟩ : ∃ x, V.l[t.toNat]? = some x := ⟨_, List.getElem?_eq_getElem (by omega)⟩
    rw [hx]
    simp only
    have hxm := List.mem_of_getElem? hx
    have hw := hL.2 x hxm
    have hI := hF.inv x hxm
    have hw' : (strikeS x.st q m a c).2.writes = [] ∧ Rising (strikeS x.st q m a c).2.seen := by
      unfold strikeS
      split
      · exact ⟨hw, hI.rise⟩
      · split
        · exact ⟨rfl, List.Pairwise.nil⟩
        · refine ⟨rfl, ?_⟩
          unfold loseS
          simp only
          split
          · exact hI.rise
          · exact hI.rise.filter _
        · unfold bendS
          split
          · exact ⟨rfl, hI.rise⟩
          · split
            · exact ⟨rfl, hI.rise⟩
            · exact ⟨rfl, rising_put hI.rise⟩
        · exact ⟨hw, hI.rise⟩
        · exact ⟨hw, hI.rise⟩
        · exact ⟨hw, hI.rise⟩
        · exact ⟨hw, hI.rise⟩
    have hsame : (x.sus || (decide ((strikeS x.st q m a c).1 = 0) && (decide (q ≠ 5) && decide (q ≠ 7)))) = false → x.sus = false ∧ (strikeS x.st q m a c).2.seen = x.st.seen ∧ (x.st.down = false → (strikeS x.st q m a c).2.down = false) ∧ (strikeS x.st q m a c).2.refuse = x.st.refuse := fun h => by
      rw [Bool.or_eq_false_iff, Bool.and_eq_false_iff, Bool.and_eq_false_iff] at h
      refine ⟨h.1, ?_⟩
      have h2 := h.2
      unfold strikeS at h2 ⊢
      by_cases hb : badF q m a c = true
      · rw [if_pos hb]
        exact ⟨rfl, fun h => h, rfl⟩
      · rw [if_neg hb] at h2 ⊢
        simp only [decide_eq_false_iff_not, ne_eq, not_true, false_or, Decidable.not_not] at h2
        rcases h2 with rfl | rfl
        · exact ⟨rfl, fun _ => rfl, rfl⟩
        · exact ⟨rfl, fun h => h, rfl⟩
    have hnew : InvS n R (Dm R fl) { x with st := (strikeS x.st q m a c).2, sus := x.sus || (decide ((strikeS x.st q m a c).1 = 0) && (decide (q ≠ 5) && decide (q ≠ 7))) } := by
      refine InvS.of hw'.1 (fun b hb => (hI.now hw).1 b (hno x ht.1 hx b hb)) (fun hs u hu => ?_) (fun hs => ?_) hw'.2
      · obtain ⟨s1, s2, s3, s4⟩ := hsame hs
        obtain ⟨b, b1, b2⟩ := (hI.now hw).2 s1 u hu
        exact ⟨b, (stands_seen s2).2 b1, b2⟩
      · obtain ⟨s1, s2, s3, s4⟩ := hsame hs
        exact ⟨s3 (hI.up s1).1, s4.trans (hI.up s1).2⟩
    refine ⟨⟨?_, hS.k1, hS.kn, hS.two, ?_⟩, ⟨hL.1, fun y hy => ?_⟩, hF.good, hF.small, hF.pos, fun y hy => ?_⟩
    · show ((V.l.set t.toNat _).length : Int) = n
      rw [List.length_set]
      exact hS.len
    · have hc := count_set V.l t.toNat x { x with st := (strikeS x.st q m a c).2, sus := x.sus || (decide ((strikeS x.st q m a c).1 = 0) && (decide (q ≠ 5) && decide (q ≠ 7))) } hx
      simp only at hc
      have hf := hS.few
      generalize hy : (x.sus || (decide ((strikeS x.st q m a c).1 = 0) && (decide (q ≠ 5) && decide (q ≠ 7)))) = y at *
      have : (V.l.set t.toNat { x with st := (strikeS x.st q m a c).2, sus := y }).countP (fun x => x.sus) ≤ V.l.countP (fun x => x.sus) + 1 := by
        cases y <;> simp at hc <;> omega
      show (((V.l.set t.toNat { x with st := (strikeS x.st q m a c).2, sus := y }).countP (fun x => x.sus) : Nat) : Int) ≤ n - k
      rcases hfew with rfl | rfl | h | ⟨z, hz, hzs⟩
      · simp at hy
        subst hy
        omega
      · simp at hy
        subst hy
        omega
      · omega
      · rw [hx] at hz
        cases hz
        rw [hzs] at hc
        cases y <;> simp at hc <;> omega
    · rcases List.mem_or_eq_of_mem_set hy with hy | rfl
      · exact hL.2 y hy
      · exact hw'.1
    · rcases List.mem_or_eq_of_mem_set hy with hy | rfl
      · exact hF.inv y hy
      · exact hnew
  · rw [if_neg ht]
    exact ⟨hS, hL, hF⟩
/-- Init, of new stores -/
theorem init_is (hS : Sane n k V) (hn12 : n ≤ 12) (hd : V.dark = false) (h0 : ∀ x ∈ V.l, x.st = st0 ∧ x.sus = false) {p : ByteArray} (hp : p.size ≤ 65486) :
    ((initW V k n p).1 = 56 ∧ (initW V k n p).2.2.dark = true) ∨
    ((initW V k n p).1 = 0 ∧ (initW V k n p).2.1 = ⟨1, 1, k, n, p⟩ ∧ Lt (initW V k n p).2.2 ∧ Sane n k (initW V k n p).2.2 ∧ ∃ R, OInv n k ⟨1, 1, k, n, p⟩ 1 R (initW V k n p).2.2) := by
  obtain ⟨b, hb⟩ : ∃ b : Bst, b = ⟨1, 1, k, n, p⟩ := ⟨_, rfl⟩
  have hk := hS.k1
  have hkn := hS.kn
  have bok : mErr b = 0 := by
    rw [hb]
    refine F.mkE_zero.2 ⟨?_, hp⟩
    unfold F.okF F.okN F.okC
    simp only [Bool.and_eq_true, decide_eq_true_eq]
    omega
  have b1 : b.e = 1 ∧ b.g = 1 ∧ b.k = k ∧ b.n = n := by
    rw [hb]
    exact ⟨rfl, rfl, rfl, rfl⟩
  have hmay : mayP V b = 0 := by
    unfold mayP
    rw [if_pos (by rw [b1.2.2.2, hS.len])]
    exact bok
  have hL : Lt V := ⟨hd, fun x hx => by rw [(h0 x hx).1]; rfl⟩
  have hnone : ∀ x ∈ V.l, ∀ c, ¬ Stands n x.st c := fun x hx c hc => by
    rw [(h0 x hx).1] at hc
    rcases hc with hc | hc <;> (unfold sl at hc; simp [st0, W.look, noR] at hc)
  have hdn : ∀ x ∈ V.l, x.st.down = false ∧ x.st.refuse = none := fun x hx => by
    rw [(h0 x hx).1]
    exact ⟨rfl, rfl⟩
  have ho : initW V k n p = if (gathW V).1 ≠ 0 then ((gathW V).1, zB, (gathW V).2.1) else if (nwst (gathW V).2.2).sd then (6, zB, (gathW V).2.1) else if (idx 0 (gathW V).2.2).length < (gathW V).2.2.length then (55, zB, (gathW V).2.1) else sprW (gathW V).2.2 b 0 0 (gathW V).2.1 := by
    unfold initW
    simp only
    rw [← hb, if_neg (by rw [hmay]; decide)]
  rw [ho]
  rcases gathW_is hS.len hL.1 with ⟨g1, g2, g3⟩ | ⟨g1, g2, g3, g4⟩
  · rw [if_pos (by rw [g1]; decide), g1]
    exact .inl ⟨rfl, g2⟩
  · have hS1 : Sane n k (gathW V).2.1 := hS.of (by rw [g3])
    have hL1 : Lt (gathW V).2.1 := hL.l g2 g3
    rw [← g3] at h0 hnone hdn
    rw [if_neg (by rw [g1]; decide), g4, ← g3]
    clear ho g4
    generalize (gathW V).2.1 = V1 at *
    rw [if_neg, if_neg]
    · have hI : ∀ x ∈ V1.l, InvS n (fun c => c = b) (fun _ => False) x := fun x hx => InvS.of (hL1.2 x hx) (fun c hc => absurd hc (hnone x hx c)) (fun _ t ht => ht.elim) (fun _ => hdn x hx) (by rw [(h0 x hx).1]; exact List.Pairwise.nil)
      have hph := phaseW (Q := fun s => Stands n s b) (f := putD b 0 0) hL1 hI (fun x hx i V' _ hx' hd' hw hI => putD_step (R := fun c => c = b) (D := fun _ => False) bok b1.2.2.2 rfl 0 0 hx' hd' hw hI fun _ t (ht : False) => ht.elim)
      unfold sprW
      simp only
      generalize eachE (putD b 0 0) (V1.l.map fun x => hdOf n x.st) V1 = s2 at *
      obtain ⟨r1, r2, r3⟩ := hph
      rcases r3 with ⟨c1, c2⟩ | ⟨c1, c2, c3, c4, c5, c6, _⟩
      · have he2 : enoE s2 b.k = 56 := by
          unfold enoE
          rw [if_pos c1]
        rw [if_neg (by rw [he2]; decide), he2]
        exact .inl ⟨rfl, c2⟩
      · have hmost := hS1.most
        have he2 : enoE s2 b.k = 0 := by
          unfold enoE
          rw [if_neg (by rw [c1]; decide), if_neg]
          rw [b1.2.2.1]
          omega
        rw [if_pos he2, ← hb]
        show _ ∨ ((0 : Int) = 0 ∧ b = b ∧ Lt s2.V ∧ Sane n k s2.V ∧ ∃ R, OInv n k b 1 R s2.V)
        exact .inr ⟨rfl, rfl, c2, hS1.of r1, _, OInv.new bok b1.2.2.1 b1.2.2.2 ⟨by omega, by omega⟩ c2 r2 c4 (fun c hc => .inl hc) (fun c hc => by subst hc; omega) (fun c hc => by subst hc; omega)⟩
    · rw [idx_len, List.length_map]
      have : (V1.l.map fun x => hdOf n x.st).countP (·.ans) = V1.l.length := by
        rw [List.countP_map]
        refine List.countP_eq_length.2 fun x hx => ?_
        show (hdOf n x.st).ans = true
        rw [hdOf_up (hdn x hx).1]
      omega
    · intro hs
      obtain ⟨x, hx, _, hc⟩ := (nw_is (n := n) V1.l).2 hs
      exact hnone x hx _ hc
end Go.Proofs.YtmpgfpmkmgebdaaGreatDoor
/- Quorum, no program: a store of two names stays small; what calls keep of each store; a world without a cut stays lit. -/
namespace Go.Proofs.YtmpgfpmkmgebdaaGreatDoor
open Go.RowKit Go.Maps
open W
set_option linter.unusedVariables false
/-- objects of the two names, rising, none too great -/
structure Rw (M : List Ob) : Prop where
  rise : Rising M
  nam : ∀ p ∈ M, p.1 = m0 ∨ p.1 = m1
  dat : ∀ p ∈ M, p.2.size ≤ 65536
theorem Rw.two {M : List Ob} (h : Rw M) : M.length ≤ 2 := by
  match M, h with
  | [], _ => simp
  | [_], _ => simp
  | [_, _], _ => simp
  | a :: b :: c :: t, h =>
    exfalso
    have h1 := h.rise
    unfold Rising at h1
    rw [List.pairwise_cons, List.pairwise_cons] at h1
    have ab := h1.1 b (by simp)
    have ac := h1.1 c (by simp)
    have bc := h1.2.1 c (by simp)
    have n1 := h.nam a (by simp)
    have n2 := h.nam b (by simp)
    have n3 := h.nam c (by simp)
    have i0 : lt m0 m0 = false := by decide +kernel
    have i1 : lt m1 m1 = false := by decide +kernel
    have i2 : lt m1 m0 = false := by decide +kernel
    rcases n1 with e1 | e1 <;> rcases n2 with e2 | e2 <;> rcases n3 with e3 | e3 <;> simp only [e1, e2, e3, i0, i1, i2] at ab ac bc <;> cases ab <;> cases bc
theorem Rw.setC {M : List Ob} (h : Rw M) {n : ByteArray} (hn : n = m0 ∨ n = m1) {c : Option ByteArray} (hc : (c.getD ⟨#[]⟩).size ≤ 65536) : Rw (W.setC n c M) := by
  refine ⟨W.rising_setC h.rise, fun p hp => ?_, fun p hp => ?_⟩
  · rcases W.mem_setC hp with hp | ⟨e, _⟩
    · exact h.nam p hp
    · rw [e]; exact hn
  · rcases W.mem_setC hp with hp | ⟨_, e⟩
    · exact h.dat p hp
    · rw [e] at hc; exact hc
/-- a write of the two names -/
def WrOk (q : Wr) : Prop := (q.name = m0 ∨ q.name = m1) ∧ (q.was.getD ⟨#[]⟩).size ≤ 65536 ∧ (q.now.getD ⟨#[]⟩).size ≤ 65536
structure Sm (s : St) : Prop where
  rw : Rw s.seen
  wr : ∀ q ∈ s.writes, WrOk q
  ref : ∀ k, s.refuse = some k → k < 9223372036854775808
  room : ∀ k, s.room = some k → k < 9223372036854775808
  live : s.writes ≠ [] → s.live = true
theorem m_size {n : ByteArray} (h : n = m0 ∨ n = m1) : n.size ≤ 80 := by
  rcases h with rfl | rfl <;> decide +kernel
theorem Sm.fit {s : St} (h : Sm s) {M : Nat} (hM : 2 ≤ M) (hw : s.writes.length ≤ M) : Fit M s :=
  ⟨Nat.le_trans h.rw.two hM, hw, fun p hp => m_size (h.rw.nam p hp), h.rw.dat, fun q hq => m_size (h.wr q hq).1, fun q hq => (h.wr q hq).2.1, fun q hq => (h.wr q hq).2.2, h.ref, h.room⟩
theorem undo_rw : ∀ (l : List Wr) (M : List Ob), Rw M → (∀ q ∈ l, WrOk q) → Rw (undo M l)
  | [], _, h, _ => h
  | q :: t, M, h, hq => undo_rw t _ (h.setC (hq q List.mem_cons_self).1 (hq q List.mem_cons_self).2.1) fun x hx => hq x (List.mem_cons_of_mem _ hx)
theorem begun_size (c : Option ByteArray) (k : Nat) : ((W.begun c k).getD ⟨#[]⟩).size ≤ (c.getD ⟨#[]⟩).size := by
  cases c with
  | none => exact Nat.le_refl _
  | some d =>
    show (if k < d.size then d.extract 0 k else d).size ≤ d.size
    split
    · rw [ByteArray.size_extract]
      omega
    · exact Nat.le_refl _
theorem redo_rw (ws : List Wr) (ks : List Int) (hw : ∀ q ∈ ws, WrOk q) : ∀ (n : Nat) (M : List Ob), Rw M → Rw (redo ws ks M n)
  | 0, _, h => h
  | n + 1, M, h => by
    rw [redo_succ]
    have h1 := redo_rw ws ks hw n M h
    unfold stepK
    split
    · rename_i q k hq hk
      split
      · have := hw q (List.mem_of_getElem? hq)
        exact h1.setC this.1 (Nat.le_trans (begun_size _ _) this.2.2)
      · exact h1
    · exact h1
theorem Sm.crash {s : St} (h : Sm s) (ks : List Int) : Sm (crashS s ks) :=
  ⟨redo_rw _ _ h.wr _ _ (undo_rw _ _ h.rw fun q hq => h.wr q (List.mem_reverse.1 hq)), fun q hq => (by cases hq), h.ref, h.room, fun e => absurd rfl e⟩
theorem Sm.sync {s : St} (h : Sm s) : Sm (W.sync s).2 := by
  unfold W.sync
  split
  · exact h
  · exact ⟨h.rw, fun q hq => (by cases hq), h.ref, h.room, fun e => absurd rfl e⟩
theorem Sm.counted {s : St} (h : Sm s) : Sm (counted s).2 := by
  unfold W.counted
  split
  · exact h
  · exact ⟨h.rw, h.wr, fun k hk => (by cases hk), h.room, h.live⟩
  · rename_i n e
    exact ⟨h.rw, h.wr, fun k hk => by
      have := h.ref _ e
      cases hk
      omega, h.room, h.live⟩
theorem look_dat {M : List Ob} (h : Rw M) (n : ByteArray) : ((W.look n M).getD ⟨#[]⟩).size ≤ 65536 := by
  unfold W.look
  cases hf : M.find? fun p => decide (p.1 = n) with
  | none => decide
  | some p => exact h.dat p (List.mem_of_find?_eq_some hf)
theorem Sm.put {s : St} (h : Sm s) (k : Nat) (d : ByteArray) : Sm (putS s (mn k) d).2 := by
  have hn : mn k = m0 ∨ mn k = m1 := by
    unfold mn
    split
    · exact .inl rfl
    · exact .inr rfl
  unfold putS
  split
  · exact h
  · rename_i hb
    have hd : d.size ≤ 65536 := by
      unfold badName at hb
      simp only [Bool.or_eq_true, decide_eq_true_eq] at hb
      omega
    split
    · exact h
    · split
      · exact h
      · have hc := h.counted
        unfold tried
        split
        · exact hc
        · refine ⟨hc.rw.setC (c := some d) hn hd, fun q hq => ?_, hc.ref, hc.room, fun _ => by simp⟩
          rcases List.mem_append.1 hq with hq | hq
          · exact hc.wr q hq
          · rw [List.mem_singleton] at hq
            subst hq
            exact ⟨hn, look_dat hc.rw _, hd⟩
theorem bent_size (d : ByteArray) (a y : Nat) : (bent d a y).size = d.size := by
  unfold bent
  show (W.ofBs _).data.size = _
  unfold W.ofBs
  rw [List.size_toArray, List.length_map, List.length_set, W.bs_length]
theorem Sm.strike {s : St} (h : Sm s) {k n a c : Int} (hn : n < 9223372036854775808) : Sm (strikeS s k n a c).2 := by
  unfold strikeS
  split
  · exact h
  · rename_i hb
    have hz : ∀ m : Nat, some n.toNat = some m → m < 9223372036854775808 := fun m e => by
      cases e
      omega
    simp only
    split
    · exact ⟨⟨W.rising_nil, fun p hp => (by cases hp), fun p hp => (by cases hp)⟩, fun q hq => (by cases hq), h.ref, h.room, fun e => absurd rfl e⟩
    · unfold loseS
      refine ⟨?_, fun q hq => (by cases hq), h.ref, h.room, fun e => absurd rfl e⟩
      simp only
      split
      · exact h.rw
      · rename_i p hp
        exact h.rw.setC (c := none) (h.rw.nam p (stk_mem hp)) (by decide)
    · unfold bendS
      split
      · exact ⟨h.rw, fun q hq => (by cases hq), h.ref, h.room, fun e => absurd rfl e⟩
      · rename_i p hp
        split
        · exact ⟨h.rw, fun q hq => (by cases hq), h.ref, h.room, fun e => absurd rfl e⟩
        · exact ⟨h.rw.setC (c := some (bent p.2 a.toNat c.toNat)) (h.rw.nam p (stk_mem hp)) (by show (bent p.2 _ _).size ≤ _; rw [bent_size]; exact h.rw.dat p (stk_mem hp)), fun q hq => (by cases hq), h.ref, h.room, fun e => absurd rfl e⟩
    · exact ⟨h.rw, h.wr, h.ref, h.room, h.live⟩
    · exact ⟨h.rw, h.wr, h.ref, h.room, h.live⟩
    · exact ⟨h.rw, h.wr, hz, h.room, h.live⟩
    · exact ⟨h.rw, h.wr, h.ref, hz, h.live⟩
/-- what a get, a put of the two names and a sync keep of a world -/
structure Cl (P : Wd → Prop) : Prop where
  put : ∀ V (i : Int) k d, P V → P (askS V i fun s => putS s (mn k) d).2
  syn : ∀ V (i : Int), P V → P (askS V i W.sync).2
  got : ∀ V (i : Int), P V → P (askW V i)
def All (P : St → Prop) (V : Wd) : Prop := ∀ x ∈ V.l, P x.st
theorem All.ask {P : St → Prop} {V : Wd} (h : All P V) {f : St → Int × St} (hf : ∀ s, P s → P (f s).2) (i : Int) : All P (askS V i f).2 := by
  unfold askS
  split
  · split
    · unfold All
      rw [countW_l]
      exact h
    · split
      · rename_i x hx
        rw [countW_l] at hx
        intro y hy
        have hy : y ∈ (countW V).l.set i.toNat { x with st := (f x.st).2 } := hy
        rw [countW_l] at hy
        rcases List.mem_or_eq_of_mem_set hy with hy | rfl
        · exact h y hy
        · exact hf _ (h x (List.mem_of_getElem? hx))
      · unfold All
        rw [countW_l]
        exact h
  · exact h
theorem All.got {P : St → Prop} {V : Wd} (h : All P V) (i : Int) : All P (askW V i) := by
  unfold askW
  split
  · unfold All
    rw [countW_l]
    exact h
  · exact h
theorem Cl.sm : Cl (All Sm) := ⟨fun V i k d h => h.ask (fun s hs => hs.put k d) i, fun V i h => h.ask (fun s hs => hs.sync) i, fun V i h => h.got i⟩
/-- no cut is to come -/
def NC (V : Wd) : Prop := V.dark = false ∧ V.cut = false
theorem NC.count {V : Wd} (h : NC V) : NC (countW V) := by
  unfold countW
  rw [if_neg (by rw [h.2]; decide)]
  exact h
theorem NC.ask {V : Wd} (h : NC V) (i : Int) (f : St → Int × St) : NC (askS V i f).2 := by
  unfold askS
  split
  · split
    · exact h.count
    · split
      · exact h.count
      · exact h.count
  · exact h
theorem Cl.nc : Cl NC := ⟨fun V i k d h => h.ask i _, fun V i h => h.ask i _, fun V i h => by
  unfold askW
  split
  · exact h.count
  · exact h⟩
variable {P : Wd → Prop} {V : Wd}
theorem Cl.gath (hc : Cl P) (n : Int) : ∀ (k i : Nat) (V : Wd) (acc : List Hd), P V → P (gath n k i V acc).2.1
  | 0, _, _, _, h => h
  | k + 1, i, V, acc, h => by
    unfold Go.Proofs.YtmpgfpmkmgebdaaGreatDoor.gath
    split
    · exact hc.got _ _ h
    · split
      · exact hc.got _ _ (hc.got _ _ h)
      · exact Cl.gath hc n k (i + 1) _ _ (hc.got _ _ (hc.got _ _ h))
theorem Cl.gathW (hc : Cl P) (h : P V) : P (gathW V).2.1 := hc.gath _ _ _ _ _ h
theorem Cl.putD (hc : Cl P) (b : Bst) (oe og : Int) (i : Nat) (hd : Hd) (V : Wd) (h : P V) : P (putD b oe og i hd V).2.2 := by
  unfold Go.Proofs.YtmpgfpmkmgebdaaGreatDoor.putD
  simp only
  have h1 := hc.put V (i : Int) (slt oe og hd) (mdat b) h
  split
  · exact h1
  · split
    · exact hc.syn _ _ h1
    · exact hc.syn _ _ h1
theorem Cl.setD (hc : Cl P) (b : Bst) (i : Nat) (hd : Hd) (V : Wd) (h : P V) : P (setD b i hd V).2.2 := by
  unfold Go.Proofs.YtmpgfpmkmgebdaaGreatDoor.setD
  split
  · exact hc.syn _ _ h
  · exact hc.putD _ _ _ _ _ _ h
theorem Cl.mndD (hc : Cl P) (b : Bst) (i : Nat) (hd : Hd) (V : Wd) (h : P V) : P (mndD b i hd V).2.2 := by
  unfold Go.Proofs.YtmpgfpmkmgebdaaGreatDoor.mndD
  split
  · exact h
  · exact hc.putD _ _ _ _ _ _ h
theorem each_keeps {f : Nat → Hd → Wd → Int × Hd × Wd} (hf : ∀ i hd V, P V → P (f i hd V).2.2) (l : List Hd) (h : P V) : P (eachE f l V).V := by
  unfold eachE
  have : ∀ (ids : List Nat) (s : ES), P s.V → P (ids.foldl (oneE f) s).V := fun ids => by
    induction ids with
    | nil => intro s hs; exact hs
    | cons i t ih =>
      intro s hs
      rw [List.foldl_cons]
      apply ih
      unfold oneE
      split
      · exact hs
      · split
        · exact hf _ _ _ hs
        · exact hs
  exact this _ _ h
theorem Cl.spr (hc : Cl P) (l : List Hd) (b : Bst) (oe og : Int) (h : P V) : P (sprW l b oe og V).2.2 := by
  have := each_keeps (fun i hd V => hc.putD b oe og i hd V) l h
  unfold sprW
  simp only
  split <;> exact this
theorem Cl.open (hc : Cl P) (h : P V) : P (openW V).2.2 := by
  unfold openW
  simp only
  split
  · exact hc.gathW h
  · split
    · exact hc.gathW h
    · split
      · exact hc.gathW h
      · split
        · exact each_keeps (fun i hd V => hc.setD _ i hd V) _ (hc.gathW h)
        · exact hc.spr _ _ _ _ (each_keeps (fun i hd V => hc.setD _ i hd V) _ (hc.gathW h))
theorem Cl.read (hc : Cl P) (h : P V) : P (readW V).2.2 := by
  unfold readW
  simp only
  split <;> exact hc.gathW h
theorem Cl.write (hc : Cl P) (h : P V) (b : Bst) (p : ByteArray) : P (writeW V b p).2.2 := by
  unfold writeW
  simp only
  split
  · exact h
  · split
    · exact h
    · split
      · exact hc.gathW h
      · split
        · exact hc.gathW h
        · exact hc.spr _ _ _ _ (hc.gathW h)
theorem Cl.init (hc : Cl P) (h : P V) (k n : Int) (p : ByteArray) : P (initW V k n p).2.2 := by
  unfold initW
  simp only
  split
  · exact h
  · split
    · exact hc.gathW h
    · split
      · exact hc.gathW h
      · split
        · exact hc.gathW h
        · exact hc.spr _ _ _ _ (hc.gathW h)
theorem Cl.mend (hc : Cl P) (h : P V) (b : Bst) : P (mendW V b).2 := by
  unfold mendW
  simp only
  split
  · exact h
  · split
    · exact hc.gathW h
    · exact each_keeps (fun i hd V => hc.mndD _ i hd V) _ (hc.gathW h)
theorem Sm.all_crash (h : All Sm V) (sv : List Sv) : All Sm (crashW V sv) := fun x hx => by
  have hx : x ∈ V.l.mapIdx (crashK sv) := hx
  obtain ⟨i, hi, e⟩ := List.mem_mapIdx.1 hx
  rw [← e]
  exact (h _ (List.getElem_mem hi)).crash _
theorem Sm.all_strike (h : All Sm V) {k t n a c : Int} (hn : n < 9223372036854775808) : All Sm (strikeW V k t n a c).2 := by
  unfold strikeW
  split
  · split
    · rename_i x hx
      intro y hy
      have hy := List.mem_or_eq_of_mem_set hy
      rcases hy with hy | rfl
      · exact h y hy
      · exact (h x (List.mem_of_getElem? hx)).strike hn
    · exact h
  · exact h
theorem Sm.all_clear (h : All Sm V) : All Sm (clearW V) := fun x hx => by
  have hx : x ∈ V.l.map clearK := hx
  obtain ⟨y, hy, e⟩ := List.mem_map.1 hx
  rw [← e]
  unfold clearK
  split
  · exact h y hy
  · exact h y hy
/-- a crash: it is as great as it was, at the most -/
theorem Ok.crash {M n : Nat} (h : Ok M n V) (hS : All Sm V) (hM : 2 ≤ M) (sv : List Sv) : Ok M n (crashW V sv) :=
  ⟨by show (V.l.mapIdx (crashK sv)).length = n; rw [List.length_mapIdx]; exact h.len, fun x hx => by
    have h1 := Sm.all_crash hS sv x hx
    have hx : x ∈ V.l.mapIdx (crashK sv) := hx
    obtain ⟨i, hi, e⟩ := List.mem_mapIdx.1 hx
    refine h1.fit hM ?_
    rw [← e]
    exact Nat.zero_le _, h.calls, by show (0 : Nat) < _; decide⟩
theorem Ok.strike {M n : Nat} (h : Ok M n V) (hS : All Sm V) (hM : 2 ≤ M) {k t m a c : Int} (hm : m < 9223372036854775808) : Ok M n (strikeW V k t m a c).2 := by
  have h1 := Sm.all_strike hS (k := k) (t := t) (a := a) (c := c) hm
  have hw : ∀ s : St, (strikeS s k m a c).2.writes = s.writes ∨ (strikeS s k m a c).2.writes = [] := fun s => by
    unfold strikeS
    split
    · exact .inl rfl
    · simp only
      split
      · exact .inr rfl
      · exact .inr rfl
      · unfold bendS
        split
        · exact .inr rfl
        · split
          · exact .inr rfl
          · exact .inr rfl
      · exact .inl rfl
      · exact .inl rfl
      · exact .inl rfl
      · exact .inl rfl
  have e : (strikeW V k t m a c).2.l.length = V.l.length ∧ (strikeW V k t m a c).2.calls = V.calls ∧ (strikeW V k t m a c).2.left = V.left ∧ ∀ x ∈ (strikeW V k t m a c).2.l, x.st.writes.length ≤ M := by
    unfold strikeW
    split
    · split
      · rename_i x hx
        refine ⟨List.length_set .., rfl, rfl, fun y hy => ?_⟩
        rcases List.mem_or_eq_of_mem_set hy with hy | rfl
        · exact (h.fit y hy).writes
        · rcases hw x.st with e | e
          · show (strikeS x.st k m a c).2.writes.length ≤ M
            rw [e]
            exact (h.fit x (List.mem_of_getElem? hx)).writes
          · show (strikeS x.st k m a c).2.writes.length ≤ M
            rw [e]
            exact Nat.zero_le _
      · exact ⟨rfl, rfl, rfl, fun y hy => (h.fit y hy).writes⟩
    · exact ⟨rfl, rfl, rfl, fun y hy => (h.fit y hy).writes⟩
  exact ⟨e.1.trans h.len, fun x hx => (h1 x hx).fit hM (e.2.2.2 x hx), by rw [e.2.1]; exact h.calls, by rw [e.2.2.1]; exact h.left⟩
theorem Ok.clear {M n : Nat} (h : Ok M n V) : Ok M n (clearW V) :=
  ⟨by show (V.l.map clearK).length = n; rw [List.length_map]; exact h.len, fun x hx => by
    have hx : x ∈ V.l.map clearK := hx
    obtain ⟨y, hy, e⟩ := List.mem_map.1 hx
    rw [← e]
    unfold clearK
    split
    · exact h.fit y hy
    · exact h.fit y hy, h.calls, h.left⟩
theorem Ok.cut {M n : Nat} (h : Ok M n V) {a : Int} (ha : a < 9223372036854775808) : Ok M n (cutW V a).2 := by
  unfold cutW
  split
  · exact h
  · exact ⟨h.len, h.fit, h.calls, by show a.toNat < _; omega⟩
end Go.Proofs.YtmpgfpmkmgebdaaGreatDoor
