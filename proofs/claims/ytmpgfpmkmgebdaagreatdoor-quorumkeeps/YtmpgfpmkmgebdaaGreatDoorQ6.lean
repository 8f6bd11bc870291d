/- Quorum, no program: what stands through all calls; Open. -/
import Derived.Test.YtmpgfpmkmgebdaaGreatDoorQ4
namespace Go.Proofs.YtmpgfpmkmgebdaaGreatDoor
open Go.RowKit Go.Maps
open W
/-- so many stores, of which so few are suspect -/
structure Sane (n k : Int) (V : Wd) : Prop where
  len : (V.l.length : Int) = n
  k1 : 1 ≤ k
  kn : k ≤ n
  two : n < 2 * k
  few : ((V.l.countP fun x => x.sus : Nat) : Int) ≤ n - k
/-- the power is there, and all stands for good -/
def Lt (V : Wd) : Prop := V.dark = false ∧ ∀ x ∈ V.l, x.st.writes = []
/-- what each store that is not suspect must have something for that is not less -/
def Dm (R : Bst → Prop) (fl t : Bst) : Prop := (t.e = fl.e ∧ t.g = fl.g) ∨ ∃ b, R b ∧ fl.e < b.e ∧ t.e = b.e - 1 ∧ t.g = b.g
/-- fl was taken; yo: what was then put and not known to be taken; R: all that could be found -/
structure FInv (n k : Int) (fl : Bst) (yo : Option ByteArray) (B : Int) (R : Bst → Prop) (V : Wd) : Prop where
  good : ∀ b, R b → ls b fl = false → b.k = k ∧ ((b.g = fl.g ∧ b.p = fl.p) ∨ ∃ y, yo = some y ∧ b.g = fl.g + 1 ∧ b.p = y)
  small : ∀ b, R b → b.e ≤ B ∧ b.g ≤ B
  pos : ∀ b, R b → 0 ≤ b.e ∧ 0 ≤ b.g
  inv : ∀ x ∈ V.l, InvS n R (Dm R fl) x
/-- fl is what counts: nothing is newer -/
structure OInv (n k : Int) (fl : Bst) (B : Int) (R : Bst → Prop) (V : Wd) : Prop where
  f : FInv n k fl none B R V
  le : ∀ b, R b → ls fl b = false
  ok : mErr fl = 0
  fk : fl.k = k
  fn : fl.n = n
  fb : fl.e ≤ B ∧ fl.g ≤ B
theorem count_two (l : List Kp) : (l.countP fun x => x.sus) + (l.countP fun x => !x.sus) = l.length := by
  induction l with
  | nil => rfl
  | cons x t ih =>
    rw [List.countP_cons, List.countP_cons, List.length_cons]
    cases x.sus <;> simp <;> omega
theorem Sane.most {n k : Int} {V : Wd} (h : Sane n k V) : k ≤ ((V.l.countP fun x => !x.sus : Nat) : Int) := by
  have := count_two V.l
  have := h.few
  have := h.len
  omega
theorem Sane.one {n k : Int} {V : Wd} (h : Sane n k V) : ∃ x ∈ V.l, x.sus = false := by
  have h1 := h.most
  have h2 := h.k1
  have : 0 < V.l.countP fun x => !x.sus := by omega
  obtain ⟨x, hx, hs⟩ := List.countP_pos_iff.1 this
  exact ⟨x, hx, by simpa using hs⟩
theorem count_map {l l' : List Kp} (h : l'.map (·.sus) = l.map (·.sus)) : (l'.countP fun x => x.sus) = l.countP fun x => x.sus := by
  have e : ∀ l : List Kp, (l.countP fun x => x.sus) = (l.map (·.sus)).countP id := fun l => by
    rw [List.countP_map]
    rfl
  rw [e, e, h]
theorem Sane.of {n k : Int} {V V' : Wd} (h : Sane n k V) (hs : V'.l.map (·.sus) = V.l.map (·.sus)) : Sane n k V' :=
  ⟨by have := congrArg List.length hs; simp at this; rw [this]; exact h.len, h.k1, h.kn, h.two, by rw [count_map hs]; exact h.few⟩
theorem FInv.l {n k : Int} {fl : Bst} {yo : Option ByteArray} {B : Int} {R : Bst → Prop} {V V' : Wd} (h : FInv n k fl yo B R V) (hl : V'.l = V.l) : FInv n k fl yo B R V' := ⟨h.good, h.small, h.pos, by rw [hl]; exact h.inv⟩
theorem FInv.up {n k : Int} {fl : Bst} {yo : Option ByteArray} {B B' : Int} {R : Bst → Prop} {V : Wd} (h : FInv n k fl yo B R V) (hB : B ≤ B') : FInv n k fl yo B' R V := ⟨h.good, fun b hb => by have := h.small b hb; omega, h.pos, h.inv⟩
theorem OInv.l {n k : Int} {fl : Bst} {B : Int} {R : Bst → Prop} {V V' : Wd} (h : OInv n k fl B R V) (hl : V'.l = V.l) : OInv n k fl B R V' := ⟨h.f.l hl, h.le, h.ok, h.fk, h.fn, h.fb⟩
theorem OInv.up {n k : Int} {fl : Bst} {B B' : Int} {R : Bst → Prop} {V : Wd} (h : OInv n k fl B R V) (hB : B ≤ B') : OInv n k fl B' R V := ⟨h.f.up hB, h.le, h.ok, h.fk, h.fn, by have := h.fb; omega⟩
theorem Lt.l {V V' : Wd} (h : Lt V) (hd : V'.dark = false) (hl : V'.l = V.l) : Lt V' := ⟨hd, by rw [hl]; exact h.2⟩
/-- how many answer -/
theorem idx_many {n k : Int} {fl : Bst} {yo : Option ByteArray} {B : Int} {R : Bst → Prop} {V : Wd} (hS : Sane n k V) (hF : FInv n k fl yo B R V) : k ≤ ((idx 0 (V.l.map fun x => hdOf n x.st)).length : Int) := by
  have h1 := hS.most
  have h2 : (V.l.countP fun x => !x.sus) ≤ (V.l.map fun x => hdOf n x.st).countP (·.ans) := by
    rw [List.countP_map]
    refine List.countP_mono_left fun x hx hs => ?_
    have := ((hF.inv x hx).up (by simpa using hs)).1
    show (hdOf n x.st).ans = true
    rw [hdOf_up this]
  rw [idx_len]
  omega
/-- what is found -/
structure Found (n k : Int) (fl : Bst) (yo : Option ByteArray) (R : Bst → Prop) (V : Wd) (f : Bst) : Prop where
  sd : nwst (V.l.map fun x => hdOf n x.st) = ⟨true, f⟩
  r : R f
  ok : mErr f = 0
  fn : f.n = n
  fk : f.k = k
  ge : ls f fl = false
  top : ∀ t, Dm R fl t → ls f t = false
  body : (f.g = fl.g ∧ f.p = fl.p) ∨ ∃ y, yo = some y ∧ f.g = fl.g + 1 ∧ f.p = y
  e0 : findE (V.l.map fun x => hdOf n x.st) = 0
theorem found_is {n k : Int} {fl : Bst} {yo : Option ByteArray} {B : Int} {R : Bst → Prop} {V : Wd} (hS : Sane n k V) (hL : Lt V) (hF : FInv n k fl yo B R V) : ∃ f, Found n k fl yo R V f := by
  obtain ⟨n1, n2⟩ := nw_is (n := n) V.l
  have hm := idx_many hS hF
  obtain ⟨x, hx, hs⟩ := hS.one
  have hI := hF.inv x hx
  have hnow := (hI.now (hL.2 x hx)).2 hs
  have hd := (hI.up hs).1
  have htop : ∀ t, Dm R fl t → (nwst (V.l.map fun x => hdOf n x.st)).sd = true ∧ ls (nwst (V.l.map fun x => hdOf n x.st)).b t = false := fun t ht => by
    obtain ⟨c, c1, c2⟩ := hnow t ht
    obtain ⟨d1, d2⟩ := n1 x hx hd c c1
    exact ⟨d1, ls_trans d2 c2⟩
  obtain ⟨hsd, hge⟩ := htop fl (.inl ⟨rfl, rfl⟩)
  obtain ⟨y, hy, hyd, hys⟩ := n2 hsd
  have hR := ((hF.inv y hy).now (hL.2 y hy)).1 _ hys
  obtain ⟨ok1, ok2⟩ := hys.ok
  obtain ⟨gk, gb⟩ := hF.good _ hR hge
  have he0 : findE (V.l.map fun x => hdOf n x.st) = 0 := by
    unfold findE
    rw [if_pos hsd, if_neg]
    rw [ok2, gk]
    have := hS.two
    omega
  generalize hr : nwst (V.l.map fun x => hdOf n x.st) = r at *
  obtain ⟨sd, f⟩ := r
  simp only at hsd
  subst hsd
  exact ⟨f, hr, hR, ok1, ok2, gk, hge, fun t ht => (htop t ht).2, gb, he0⟩
theorem safe_base {n : Int} {D : Bst → Prop} {f : Bst} {s : St} (hd : s.down = false) (hf : Stands n s f) (hD : ∀ t, D t → ls f t = false) : Safe n D f.e f.g s := by
  intro t ht
  have key : ∀ r : Rp, isB f.e f.g r = true → ∃ c, r = ⟨true, c⟩ ∧ ls c t = false := fun r hr => by
    unfold isB at hr
    simp only [Bool.and_eq_true, decide_eq_true_eq] at hr
    obtain ⟨sd, c⟩ := r
    simp only at hr
    obtain ⟨h1, h2, h3⟩ := hr
    subst h1
    refine ⟨c, rfl, ?_⟩
    have := hD t ht
    rw [ls_false] at this ⊢
    omega
  have hb : ∀ r : Rp, r = ⟨true, f⟩ → isB f.e f.g r = true := fun r hr => by
    rw [hr]
    unfold isB
    simp
  rw [hdOf_up hd]
  unfold slt
  simp only
  by_cases h0 : isB f.e f.g (sl n s 0) = true
  · rw [if_pos h0]
    exact key _ h0
  · rw [if_neg h0]
    have h1 : isB f.e f.g (sl n s 1) = true := by
      rcases hf with hf | hf
      · exact absurd (hb _ hf) h0
      · exact hb _ hf
    rw [if_pos (by rw [h1]; rfl)]
    exact key _ h1
theorem safe_max {n : Int} {D : Bst → Prop} {oe og : Int} {s : St} (hd : s.down = false) (h0 : ∀ c, Stands n s c → ¬ (c.e = oe ∧ c.g = og)) (hD : ∀ t, D t → ∃ c, Stands n s c ∧ ls c t = false) : Safe n D oe og s := by
  intro t ht
  obtain ⟨c, c1, c2⟩ := hD t ht
  have hb : ∀ j, j ≤ 1 → isB oe og (sl n s j) = false := fun j hj => by
    cases h : isB oe og (sl n s j) with
    | false => rfl
    | true =>
      unfold isB at h
      simp only [Bool.and_eq_true, decide_eq_true_eq] at h
      exact absurd h.2 (h0 _ (stands_of hj (b := (sl n s j).b) (by
        generalize sl n s j = r at h
        obtain ⟨sd, b⟩ := r
        simp only at h
        rw [h.1])))
  rw [hdOf_up hd]
  unfold slt
  simp only
  rw [hb 0 (by omega), hb 1 (by omega)]
  simp only [Bool.false_eq_true, if_false, Bool.false_or]
  unfold Stands at c1
  generalize hr0 : sl n s 0 = r0 at *
  generalize hr1 : sl n s 1 = r1 at *
  obtain ⟨d0, b0⟩ := r0
  obtain ⟨d1, b1⟩ := r1
  cases d0 with
  | false =>
    simp only [Bool.not_false, if_true]
    rcases c1 with c1 | c1
    · cases c1
    · exact ⟨c, by rw [← c1]; exact hr1, c2⟩
  | true =>
    simp only [Bool.not_true, Bool.false_eq_true, if_false]
    cases d1 with
    | false =>
      simp only [Bool.not_false, Bool.true_or, if_true]
      rcases c1 with c1 | c1
      · exact ⟨c, by rw [← c1]; exact hr0, c2⟩
      · cases c1
    | true =>
      simp only [Bool.not_true, Bool.false_or]
      cases hl : ls b1 b0 with
      | true =>
        simp only [if_true]
        refine ⟨b0, hr0, ?_⟩
        rcases c1 with c1 | c1
        · cases c1; exact c2
        · cases c1
          rw [ls_true] at hl
          rw [ls_false] at c2 ⊢
          omega
      | false =>
        simp only [Bool.false_eq_true, if_false]
        refine ⟨b1, hr1, ?_⟩
        rcases c1 with c1 | c1
        · cases c1
          rw [ls_false] at c2 hl ⊢
          omega
        · cases c1; exact c2
end Go.Proofs.YtmpgfpmkmgebdaaGreatDoor
/- Quorum, no program: Open, Read. -/
namespace Go.Proofs.YtmpgfpmkmgebdaaGreatDoor
open Go.RowKit Go.Maps
open W
variable {n k : Int} {fl : Bst} {yo : Option ByteArray} {B : Int} {R : Bst → Prop} {V : Wd}
/-- all stores gone through, from the first on -/
theorem phaseW {D : Bst → Prop} {Q : St → Prop} {f : Nat → Hd → Wd → Int × Hd × Wd} (hL : Lt V) (hI : ∀ x ∈ V.l, InvS n R D x)
    (hstep : ∀ x ∈ V.l, ∀ i V', V'.dark = false → V'.l[i]? = some x → x.st.down = false → x.st.writes = [] → InvS n R D x → Step n R D Q i x V' (f i (hdOf n x.st) V')) :
    (eachE f (V.l.map fun x => hdOf n x.st) V).V.l.map (·.sus) = V.l.map (·.sus) ∧ (∀ x ∈ (eachE f (V.l.map fun x => hdOf n x.st) V).V.l, InvS n R D x) ∧
    (((eachE f (V.l.map fun x => hdOf n x.st) V).cut = true ∧ (eachE f (V.l.map fun x => hdOf n x.st) V).V.dark = true) ∨
     ((eachE f (V.l.map fun x => hdOf n x.st) V).cut = false ∧ Lt (eachE f (V.l.map fun x => hdOf n x.st) V).V ∧ (eachE f (V.l.map fun x => hdOf n x.st) V).l = (eachE f (V.l.map fun x => hdOf n x.st) V).V.l.map (fun x => hdOf n x.st) ∧ (∀ x ∈ (eachE f (V.l.map fun x => hdOf n x.st) V).V.l, x.sus = false → Q x.st) ∧
       (V.l.countP fun x => !x.sus) ≤ (eachE f (V.l.map fun x => hdOf n x.st) V).dn ∧ (eachE f (V.l.map fun x => hdOf n x.st) V).dn ≤ V.l.length ∧ ((eachE f (V.l.map fun x => hdOf n x.st) V).dn = V.l.length → ∀ x ∈ (eachE f (V.l.map fun x => hdOf n x.st) V).V.l, Q x.st))) := by
  have h := (phase (n := n) (R := R) (D := D) (Q := Q) (f := f) V.l [] ⟨V.l.map fun x => hdOf n x.st, 0, V, false⟩ rfl hL.1 rfl rfl hL.2 hI hstep).out
  simp only [List.length_nil, List.nil_append] at h
  have he : eachE f (V.l.map fun x => hdOf n x.st) V = (idx 0 (V.l.map fun x => hdOf n x.st)).foldl (oneE f) ⟨V.l.map fun x => hdOf n x.st, 0, V, false⟩ := rfl
  rw [he]
  generalize (idx 0 (V.l.map fun x => hdOf n x.st)).foldl (oneE f) ⟨V.l.map fun x => hdOf n x.st, 0, V, false⟩ = s at *
  obtain ⟨rest', o1, o2, o3, o4⟩ := h
  rw [o1]
  refine ⟨o2, o3, ?_⟩
  rcases o4 with o4 | ⟨p1, p2, p3, p4, p5, p6, p7⟩
  · exact .inl o4
  · exact .inr ⟨p1, ⟨p2, fun x hx => (p4 x (by rw [o1] at hx; exact hx)).1⟩, p3, fun x hx => (p4 x hx).2, by omega, by omega, fun e => p7 (by omega)⟩
theorem setD_step {D : Bst → Prop} {b : Bst} (hb : mErr b = 0) (hn : b.n = n) (hR : R b) {i : Nat} {x : Kp} {V : Wd} (hx : V.l[i]? = some x) (hd : x.st.down = false) (hw : x.st.writes = []) (hI : InvS n R D x) (hu : ∀ c, Stands n x.st c → c.e = b.e → c.g = b.g → c = b) :
    Step n R D (fun s => Stands n s b) i x V (setD b i (hdOf n x.st) V) := by
  unfold setD
  by_cases hh : hasB (hdOf n x.st) b = true
  · rw [if_pos hh]
    have hst : Stands n x.st b := by
      unfold hasB at hh
      rw [hdOf_up hd] at hh
      simpa [Stands] using hh
    rcases ask_lit hx W.sync with ⟨a1, a2, a3⟩ | ⟨a1, a2, a3⟩
    · exact ⟨x.st, by rw [set_same hx]; exact a3, hI, .inl ⟨a1, a2⟩⟩
    · have hs : W.sync x.st = (0, x.st) := by
        unfold W.sync
        rw [if_neg (by rw [hd]; decide)]
        congr 1
        cases hxs : x.st
        rw [hxs] at hw
        simp only at hw
        rw [hw]
      rw [hs] at a1 a3
      exact ⟨x.st, a3, hI, .inr ⟨by show (askS V (i : Int) W.sync).1 ≠ 56; rw [a1]; show (0 : Int) ≠ 56; decide, a2, hw, rfl, fun _ => a1, fun _ => hst⟩⟩
  · rw [if_neg hh]
    refine putD_step hb hn hR b.e b.g hx hd hw hI fun hs => safe_max hd (fun c hc hcc => hh ?_) ((hI.now hw).2 hs)
    have := hu c hc hcc.1 hcc.2
    subst this
    unfold hasB
    rw [hdOf_up hd]
    simpa [Stands] using hc
/-- two of one stamp are one -/
theorem FInv.same (hF : FInv n k fl yo B R V) {b c : Bst} (hb : R b) (hc : R c) (hn : c.n = b.n) (h1 : ls b fl = false) (he : c.e = b.e) (hg : c.g = b.g) : c = b := by
  have h2 : ls c fl = false := by
    rw [ls_false] at h1 ⊢
    omega
  obtain ⟨k1, g1⟩ := hF.good b hb h1
  obtain ⟨k2, g2⟩ := hF.good c hc h2
  have hp : c.p = b.p := by
    rcases g1 with ⟨a1, a2⟩ | ⟨y, y1, y2, y3⟩ <;> rcases g2 with ⟨c1, c2⟩ | ⟨z, z1, z2, z3⟩
    · rw [a2, c2]
    · omega
    · omega
    · rw [y1] at z1
      cases z1
      rw [y3, z3]
  cases b
  cases c
  simp only at *
  subst he hg hn hp
  rw [k1, k2]
theorem inv_mono {D D' R' : Bst → Prop} {x : Kp} (h : InvS n R D x) (hw : x.st.writes = []) (hR : ∀ b, R b → R' b) (hD : x.sus = false → ∀ t, D' t → ∃ b, Stands n x.st b ∧ ls b t = false) : InvS n R' D' x :=
  InvS.of hw (fun b hb => hR b ((h.now hw).1 b hb)) hD h.up h.rise
/-- Open -/
theorem open_is (hS : Sane n k V) (hL : Lt V) (hF : FInv n k fl yo B R V) (hB : B < 2147483647) :
    ((openW V).1 = 56 ∧ (openW V).2.2.dark = true ∧ Sane n k (openW V).2.2 ∧ ∃ R', FInv n k fl yo (B + 1) R' (openW V).2.2) ∨
    ((openW V).1 = 0 ∧ Lt (openW V).2.2 ∧ Sane n k (openW V).2.2 ∧ ((openW V).2.1.p = fl.p ∨ yo = some (openW V).2.1.p) ∧ ∃ R', OInv n k (openW V).2.1 (B + 1) R' (openW V).2.2) := by
  rcases gathW_is hS.len hL.1 with ⟨g1, g2, g3⟩ | ⟨g1, g2, g3, g4⟩
  · have ho : openW V = (56, zB, (gathW V).2.1) := by
      unfold openW findW
      simp only [g1]
      rfl
    rw [ho]
    exact .inl ⟨rfl, g2, hS.of (by rw [g3]), R, (hF.l g3).up (by omega)⟩
  · obtain ⟨f, hf⟩ := found_is (V := (gathW V).2.1) (hS.of (by rw [g3])) (hL.l g2 g3) (hF.l g3)
    have hS1 : Sane n k (gathW V).2.1 := hS.of (by rw [g3])
    have hL1 : Lt (gathW V).2.1 := hL.l g2 g3
    have hF1 : FInv n k fl yo B R (gathW V).2.1 := hF.l g3
    have hm := idx_many hS1 hF1
    have hfe := hF.small f hf.r
    have ho : openW V = (if enoE (eachE (setD f) (V.l.map fun x => hdOf n x.st) (gathW V).2.1) f.k ≠ 0 then (enoE (eachE (setD f) (V.l.map fun x => hdOf n x.st) (gathW V).2.1) f.k, zB, (eachE (setD f) (V.l.map fun x => hdOf n x.st) (gathW V).2.1).V) else
        sprW (eachE (setD f) (V.l.map fun x => hdOf n x.st) (gathW V).2.1).l (nextE f) f.e f.g (eachE (setD f) (V.l.map fun x => hdOf n x.st) (gathW V).2.1).V) := by
      have e1 := hf.e0
      have e2 := hf.sd
      rw [g3] at e1 e2 hm
      have e3 : (findW V).1 = 0 := by
        unfold findW
        rw [if_pos g1, g4]
        exact e1
      have e4 : (findW V).2.2 = V.l.map fun x => hdOf n x.st := g4
      have e5 : (findW V).2.1 = (gathW V).2.1 := rfl
      unfold openW
      simp only
      rw [if_neg (by rw [e3]; decide), e4, e2, e5]
      simp only
      rw [if_neg (by rw [hf.fk]; omega), if_neg (by omega)]
    rw [ho]
    rw [← g3]
    clear ho g4
    generalize (gathW V).2.1 = V1 at *
    have hph := phaseW (Q := fun s => Stands n s f) (f := setD f) hL1 hF1.inv (fun x hx i V' _ hx' hd hw hI => setD_step hf.ok hf.fn hf.r hx' hd hw hI fun c hc => fun he hg => hF1.same hf.r ((hI.now hw).1 c hc) (by rw [hc.ok.2, hf.fn]) hf.ge he hg)
    generalize eachE (setD f) (V1.l.map fun x => hdOf n x.st) V1 = s1 at *
    obtain ⟨q1, q2, q3⟩ := hph
    rcases q3 with ⟨c1, c2⟩ | ⟨c1, c2, c3, c4, c5, c6, _⟩
    · have he : enoE s1 f.k = 56 := by
        unfold enoE
        rw [if_pos c1]
      rw [if_pos (by rw [he]; decide), he]
      exact .inl ⟨rfl, c2, hS1.of q1, R, ⟨hF1.good, fun b hb => by have := hF1.small b hb; omega, hF1.pos, q2⟩⟩
    · have hmost := hS1.most
      have he : enoE s1 f.k = 0 := by
        unfold enoE
        rw [if_neg (by rw [c1]; decide), if_neg]
        rw [hf.fk]
        omega
      rw [if_neg (by rw [he]; decide), c3]
      have hS2 := hS1.of q1
      obtain ⟨nx, hnx⟩ : ∃ nx, nx = nextE f := ⟨_, rfl⟩
      have nx1 : nx.e = f.e + 1 ∧ nx.g = f.g ∧ nx.k = k ∧ nx.n = n ∧ nx.p = f.p := by
        rw [hnx]
        exact ⟨rfl, rfl, hf.fk, hf.fn, rfl⟩
      have nxok : mErr nx = 0 := by
        have h1 := F.mkE_zero.1 hf.ok
        have h2 := hF1.pos f hf.r
        unfold mErr
        rw [hnx]
        refine F.mkE_zero.2 ⟨?_, h1.2⟩
        have h3 := h1.1
        unfold F.okF F.okN at h3 ⊢
        simp only [Bool.and_eq_true, decide_eq_true_eq] at h3 ⊢
        exact ⟨⟨⟨by show 0 ≤ f.e + 1; omega, by show f.e + 1 ≤ 2147483647; omega⟩, h3.1.2⟩, h3.2⟩
      rw [← hnx]
      have hgeF : ls nx fl = false := by
        have := hf.ge
        rw [ls_false] at this ⊢
        omega
      obtain ⟨R', hR'⟩ : ∃ R' : Bst → Prop, R' = fun c => R c ∨ c = nx := ⟨_, rfl⟩
      have hD' : ∀ t, Dm R' fl t → ls f t = false := fun t ht => by
        rcases ht with ht | ⟨b, b1, b2, b3, b4⟩
        · exact hf.top t (.inl ht)
        · rw [hR'] at b1
          rcases b1 with b1 | b1
          · exact hf.top t (.inr ⟨b, b1, b2, b3, b4⟩)
          · subst b1
            rw [ls_false]
            omega
      have hI2 : ∀ x ∈ s1.V.l, InvS n R' (Dm R' fl) x := fun x hx => inv_mono (q2 x hx) (c2.2 x hx) (fun b hb => by rw [hR']; exact .inl hb) fun hs t ht => ⟨f, c4 x hx hs, hD' t ht⟩
      have hph := phaseW (Q := fun s => Stands n s nx) (f := putD nx f.e f.g) c2 hI2 (fun x hx i V' _ hx' hd hw hI => putD_step nxok nx1.2.2.2.1 (by rw [hR']; exact .inr rfl) f.e f.g hx' hd hw hI fun hs => safe_base hd (c4 x hx hs) hD')
      unfold sprW
      simp only
      generalize eachE (putD nx f.e f.g) (s1.V.l.map fun x => hdOf n x.st) s1.V = s2 at *
      obtain ⟨r1, r2, r3⟩ := hph
      rcases r3 with ⟨d1, d2⟩ | ⟨d1, d2, d3, d4, d5, d6, _⟩
      · have he2 : enoE s2 nx.k = 56 := by
          unfold enoE
          rw [if_pos d1]
        rw [if_neg (by rw [he2]; decide), he2]
        refine .inl ⟨rfl, d2, hS2.of r1, R', fun b hb hl => ?_, fun b hb => ?_, fun b hb => ?_, r2⟩
        · rw [hR'] at hb
          rcases hb with hb | rfl
          · exact hF1.good b hb hl
          · refine ⟨nx1.2.2.1, ?_⟩
            rw [nx1.2.1, nx1.2.2.2.2]
            exact hf.body
        · rw [hR'] at hb
          rcases hb with hb | rfl
          · have := hF1.small b hb; omega
          · omega
        · rw [hR'] at hb
          rcases hb with hb | rfl
          · exact hF1.pos b hb
          · have := hF1.pos f hf.r; omega
      · have hmost2 := hS2.most
        have he2 : enoE s2 nx.k = 0 := by
          unfold enoE
          rw [if_neg (by rw [d1]; decide), if_neg]
          rw [nx1.2.2.1]
          omega
        rw [if_pos he2]
        have hrep : ∀ x ∈ s2.V.l, ∀ c, Stands n x.st c → R' c := fun x hx c hc => ((r2 x hx).now (d2.2 x hx)).1 c hc
        have hle : ∀ c, R' c → ls nx c = false := fun c hc => by
          rw [hR'] at hc
          rcases hc with hc | rfl
          · by_cases h : c.e ≤ f.e
            · rw [ls_false]; omega
            · have hfl : fl.e ≤ f.e := by have := hf.ge; rw [ls_false] at this; omega
              have := hf.top ⟨c.e - 1, c.g, 0, 0, ⟨#[]⟩⟩ (.inr ⟨c, hc, by omega, rfl, rfl⟩)
              rw [ls_false] at this ⊢
              simp only at this
              omega
          · exact ls_self _
        show _ ∨ ((0 : Int) = 0 ∧ Lt s2.V ∧ Sane n k s2.V ∧ (nx.p = fl.p ∨ yo = some nx.p) ∧ ∃ R', OInv n k nx (B + 1) R' s2.V)
        refine .inr ⟨rfl, d2, hS2.of r1, ?_, fun c => ∃ x ∈ s2.V.l, Stands n x.st c, ⟨fun c ⟨x, hx, hc⟩ hl => ?_, fun c ⟨x, hx, hc⟩ => ?_, fun c ⟨x, hx, hc⟩ => ?_, fun x hx => ?_⟩, fun c ⟨x, hx, hc⟩ => hle c (hrep x hx c hc), nxok, nx1.2.2.1, nx1.2.2.2.1, by omega⟩
        · show nx.p = fl.p ∨ yo = some nx.p
          rw [nx1.2.2.2.2]
          rcases hf.body with ⟨_, h⟩ | ⟨y, y1, _, y2⟩
          · exact .inl h
          · exact .inr (by rw [y1, y2])
        · have h1 := hrep x hx c hc
          have h2 := hle c h1
          rw [hR'] at h1
          rcases h1 with h1 | rfl
          · rw [ls_false] at hl h2
            have hcl : ls c fl = false := by
              rw [ls_false] at hgeF ⊢
              omega
            obtain ⟨e1, e2⟩ := hF1.good c h1 hcl
            refine ⟨e1, .inl ⟨by omega, ?_⟩⟩
            rw [nx1.2.2.2.2]
            rcases e2 with ⟨a1, a2⟩ | ⟨y, a1, a2, a3⟩ <;> rcases hf.body with ⟨z1, z2⟩ | ⟨y', z1, z2, z3⟩
            · rw [a2, z2]
            · omega
            · omega
            · rw [a1] at z1
              cases z1
              rw [a3, z3]
          · exact ⟨nx1.2.2.1, .inl ⟨rfl, rfl⟩⟩
        · have h1 := hrep x hx c hc
          rw [hR'] at h1
          rcases h1 with h1 | rfl
          · have := hF1.small c h1; omega
          · omega
        · have h1 := hrep x hx c hc
          rw [hR'] at h1
          rcases h1 with h1 | rfl
          · exact hF1.pos c h1
          · have := hF1.pos f hf.r; omega
        · refine InvS.of (d2.2 x hx) (fun c hc => ⟨x, hx, hc⟩) (fun hs t ht => ⟨nx, d4 x hx hs, ?_⟩) (r2 x hx).up (r2 x hx).rise
          rcases ht with ht | ⟨c, ⟨y, hy, hc⟩, c2, c3, c4⟩
          · rw [ls_false]; omega
          · have := hle c (hrep y hy c hc)
            rw [ls_false] at this
            omega
end Go.Proofs.YtmpgfpmkmgebdaaGreatDoor
