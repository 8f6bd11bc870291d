/- Stripe: what Read's closure does. -/
import Derived.Test.YtffhobkoagnhhaaGreatDoorS2
namespace Go.Proofs.YtffhobkoagnhhaaGreatDoor
open Go.RowKit Go.Maps
open W
variable {w0 w w' : World} {b : Nat} {V V' : Wd} {T T0 : Nat → Prop}
theorem Has.ne {w : World} {p q : Nat} {cs ds : Array Value} {t u : TypeId} (h : Has w p cs t) (k : Has w q ds u) (hn : t ≠ u) : p ≠ q := by
  intro e
  subst e
  unfold Has at h k
  rw [h] at k
  cases k
  exact hn rfl
theorem row_has {w : World} {base k n : Nat} {e : TypeId} {v : Value} {xs : List Value} (h : w.ownsRow base e k v n xs) {q : Nat} (hq : v.ownBlock = some q) : base ≤ q ∧ ∃ cur, Has w q cur e := by
  rcases h.2 with ⟨rfl, _⟩ | ⟨g, cap, cur, rfl, h2, h3, _⟩
  · cases hq
  · cases hq
    exact ⟨h2, cur, h3⟩
theorem Kpt.row (h : Kpt T w w') {base k n : Nat} {e : TypeId} {v : Value} {xs : List Value} (hr : w.ownsRow base e k v n xs) (hT : ∀ q, v.ownBlock = some q → T q) : w'.ownsRow base e k v n xs := row_block hr fun q hq _ => h.2 q (hT q hq)
theorem wpList_app3 {T e : TypeId} {size : Nat} (E : El T e size) {ops : Array Oper} {rest : List Oper} {o : Oper} {a : Act} {w : World} {Q : Exit → Act → World → Prop} (hgd : o.guard = none) (s x : Operand)
    (ho : o.op = .call { callee := .builtin .append, args := #[s, x], argTypes := #[T, T] }) (base : Nat) (v : Value) (n : Nat) (xs : List Value) (hs : a.eval s = v) (hown : w.ownsRow base e size v n xs) (ad : Addr) (m c : Nat) (news : List Value) (hx : a.eval x = .slice (some ad) m c) (hm : 0 < m) (hl : news.length = m * size) (hnews : ∀ j u, news[j]? = some u → w.cell? (ad.add j) = some u) (h1 : ∀ u ∈ news, u.oneCell' = true) (hb : n + m ≤ 100000000) (hbase : base ≤ w.heap.size)
    (h : ∀ g cap w', w'.ownsRow base e size (.slice (some ⟨g, 0, none⟩) (n + m) cap) (n + m) (xs ++ news) → w.grownBy w' v.ownBlock → (v.ownBlock = some g ∨ w.heap.size ≤ g) → wpList Tryz.prog ops Q rest (a.put o.dst (.slice (some ⟨g, 0, none⟩) (n + m) cap)) w') : wpList Tryz.prog ops Q (o :: rest) a w := by
  obtain ⟨g, cap, w', r1, r2, r3, _, r5⟩ := run_app2 E w o.type base v n xs hown ad m c news hm hl hnews h1 hb hbase
  refine wpList_plain hgd fun K hK => ?_
  unfold Oper.wp execOp
  simp only [ho, resolve, invoke, builtin, Sem.run_bind, Sem.run_pure, Result.andThen_ok, List.map_toArray, List.map_cons, List.map_nil, hs, hx, r1]
  exact hK _ _ (h g cap w' r2 r3 r5)
/-- what was written beside the world, and made anew -/
theorem Bes.write {σ : Type} {X X' : World → (Nat → Prop) → σ → Prop} {s s' : σ} {wx wy : World} {S' : Nat → Prop} (h : Bes w0 w wx b V T0 T X s) (ho : Only S' wx wy) (hS : ∀ i, S' i → T i ∧ w.heap.size ≤ i) (hT0 : ∀ i, T0 i → i < w.heap.size) (hw : w0.heap.size ≤ w.heap.size) (hx : X' wy (fun i => T i ∨ (wx.heap.size ≤ i ∧ i < wy.heap.size)) s') : Bes w0 w wy b V T0 (fun i => T i ∨ (wx.heap.size ≤ i ∧ i < wy.heap.size)) X' s' := by
  obtain ⟨⟨S, g, h1, h2, h3, h4⟩, _, hsub, hkp⟩ := h
  refine ⟨⟨S, g, h1.only ho (fun i hi hS' => (h4 i (hS i hS').1).1 hi), h2, h3.trans (ho.below h3.size fun i hi => Nat.le_trans hw (hS i hi).2), fun i hi => ?_⟩, hx, fun i hi => .inl (hsub i hi), hkp.trans ⟨ho.size, fun i hi => ho.block i (h4 i (hsub i hi)).2 fun hS' => ?_⟩⟩
  · rcases hi with hi | hi
    · exact ⟨(h4 i hi).1, Nat.lt_of_lt_of_le (h4 i hi).2 ho.size⟩
    · exact ⟨fun hS' => by have := h1.bound i hS'; omega, hi.2⟩
  · have := hT0 i hi
    have := (hS i hS').2
    omega
/-- a list in a box grew by one, and the box was written -/
theorem app_step {w2 w3 : World} {c B e t D g cap : Nat} {v : Value} {xs news : List Value} {o : Obj} (h1 : Has w2 c #[v] t) (h2 : w2.ownsRow B e 1 v D xs) (h3 : w3.ownsRow B e 1 (.slice (some ⟨g, 0, none⟩) (D + 1) cap) (D + 1) (xs ++ news)) (hg : (w2.alloc o).grownBy w3 v.ownBlock) (ht : t ≠ e) : Has w3 c #[v] t ∧ Only (fun q => q = c ∨ v.ownBlock = some q) w2 (w3.setCell ⟨c, 0, none⟩ (.slice (some ⟨g, 0, none⟩) (D + 1) cap)) ∧ Has (w3.setCell ⟨c, 0, none⟩ (.slice (some ⟨g, 0, none⟩) (D + 1) cap)) c #[.slice (some ⟨g, 0, none⟩) (D + 1) cap] t ∧ (w3.setCell ⟨c, 0, none⟩ (.slice (some ⟨g, 0, none⟩) (D + 1) cap)).ownsRow B e 1 (.slice (some ⟨g, 0, none⟩) (D + 1) cap) (D + 1) (xs ++ news) := by
  have ho : Only (fun q => v.ownBlock = some q) w2 w3 := ((Only.refl _ _).alloc o).trans (Only.of_grown hg fun k h => h) fun _ h => .inl h
  have hc : Has w3 c #[v] t := ho.has h1 fun e' => by
    obtain ⟨_, cur, hh⟩ := row_has h2 e'
    exact Has.ne h1 hh ht rfl
  obtain ⟨_, cur, hh⟩ := row_has h3 (q := g) rfl
  refine ⟨hc, (ho.mono fun i hi => .inr hi).set (.inl (.inl rfl)) _, hc.set 0 _, row_block h3 fun k hk hl => ?_⟩
  cases hk
  have hne : g ≠ c := Has.ne hh hc (Ne.symm ht)
  exact ((Only.refl (fun q => q = c) w3).set (p := ⟨c, 0, none⟩) (.inl rfl) _).block g hl hne
/-- another box, another list, beside the one that grew -/
theorem app_other {w2 : World} {c c' B e t t' D : Nat} {v v' : Value} {cs : Array Value} {xs : List Value} {w5 : World} (ho : Only (fun q => q = c ∨ v.ownBlock = some q) w2 w5) (h1 : Has w2 c #[v'] t) (h2 : w2.ownsRow B e 1 v D xs) (h : Has w2 c' cs t') (hn : t' ≠ t ∧ t' ≠ e) : Has w5 c' cs t' := ho.has h fun hc => by
  rcases hc with hc | hc
  · exact Has.ne h h1 hn.1 hc
  · obtain ⟨_, cur, hh⟩ := row_has h2 hc
    exact Has.ne h hh hn.2 rfl
theorem app_row {w2 w5 : World} {c B e e' t D D' : Nat} {v v' u : Value} {xs ys : List Value} (ho : Only (fun q => q = c ∨ v.ownBlock = some q) w2 w5) (h1 : Has w2 c #[v'] t) (h2 : w2.ownsRow B e 1 v D xs) (h : w2.ownsRow B e' 1 u D' ys) (hn : e' ≠ t ∧ e' ≠ e) : w5.ownsRow B e' 1 u D' ys := row_block h fun k hk hl => ho.block k hl fun hc => by
  obtain ⟨_, cur, hk'⟩ := row_has h hk
  rcases hc with hc | hc
  · exact Has.ne hk' h1 hn.1 hc
  · obtain ⟨_, cur', hh⟩ := row_has h2 hc
    exact Has.ne hk' hh hn.2 rfl
def rdInts (s : List (Nat × ByteArray)) : List Value := s.map fun p => .int .i64 (p.1 : Int)
def rdStrs (s : List (Nat × ByteArray)) : List Value := s.map fun p => .string p.2
/-- the memory of Read's closure: the code, the numbers and the payloads -/
structure RX (c1 c2 c3 : Nat) (K N : Int) (B k : Nat) (w : World) (T : Nat → Prop) (s : List (Nat × ByteArray)) : Prop where
  t1 : T c1
  t2 : T c2
  t3 : T c3
  b2 : B ≤ c2
  b3 : B ≤ c3
  len : s.length ≤ k
  idx : ∀ p ∈ s, p.1 < k
  h1 : Has w c1 #[.int .i64 K, .int .i64 N] 25
  rows : ∃ vh vp, Has w c2 #[vh] 82 ∧ Has w c3 #[vp] 62 ∧ w.ownsRow B 3 1 vh s.length (rdInts s) ∧ w.ownsRow B 9 1 vp s.length (rdStrs s) ∧ (∀ q, vh.ownBlock = some q → T q) ∧ ∀ q, vp.ownBlock = some q → T q
theorem RX.kept {c1 c2 c3 : Nat} {K N : Int} {B : Nat} (k : Nat) (w w' : World) (T : Nat → Prop) (s : List (Nat × ByteArray)) (h : RX c1 c2 c3 K N B k w T s) (hk : Kpt T w w') : RX c1 c2 c3 K N B k w' T s := by
  obtain ⟨vh, vp, r1, r2, r3, r4, r5, r6⟩ := h.rows
  exact { h with h1 := hk.has h.t1 h.h1, rows := ⟨vh, vp, hk.has h.t2 r1, hk.has h.t3 r2, hk.row r3 r5, hk.row r4 r6, r5, r6⟩ }
/-- a step of Read's -/
def rnx (K N : Int) (d : ByteArray) (s : List (Nat × ByteArray)) (i : Nat) (x : ByteArray) (_ : Int) : Bool × List (Nat × ByteArray) := if (snd K N (nmS d i) x).2 then (decide ((s.length : Int) + 1 < K), s ++ [(i, (snd K N (nmS d i) x).1)]) else (decide ((s.length : Int) < K), s)
theorem el3 : El 82 3 1 := el_of (z := .int .i64 0) (bytes := 8) Tryz.underlying82 (by kernel_rfl) rfl (by decide) (by decide)
set_option maxHeartbeats 4000000 in
set_option maxRecDepth 20000 in
theorem read1_any (K N : Int) (d : ByteArray) (c1 c2 c3 : Nat) (hl : H.Lay w0) (hT0 : ∀ i, T0 i → i < w.heap.size) (hw : w0.heap.size ≤ w.heap.size) (w1 : World) (V1 : Wd) (T1 : Nat → Prop) (s1 : List (Nat × ByteArray)) (i : Nat) (x : ByteArray) (e : Int) (Q : Ending → World → Prop) (hi : i < 12) (h : Bes w0 w w1 b V1 T0 T1 (RX c1 c2 c3 K N w.heap.size i) s1)
    (hq : ∀ w2 T2, Bes w0 w w2 b V1 T0 T2 (RX c1 c2 c3 K N w.heap.size (i + 1)) (rnx K N d s1 i x e).2 → Q (.returned (.bool (rnx K N d s1 i x e).1)) w2) : Calls Tryz.prog 40 #[.int .i64 (i : Int), obv (nmS d i) x, .int .i64 e, ptr c1, ptr c2, ptr c3] w1 Q := by
  have HQ := hid hq
  have HB := hid (boxed w1 (.cells #[.string (nmS d i), .string x] 64))
  have HH := hid h
  have HSN := sound_any K N (nmS d i) x _ ((h.wt.below HB.out).lay hl)
  have HX := hid (h.x)
  have f0 : ∀ o, (w1.alloc o).cell? ⟨c1, 0, none⟩ = some (.int .i64 K) := fun o => (h.x.h1.below (boxed w1 o) h.x.h1.lt).cell 0
  have f1 : ∀ o, (w1.alloc o).cell? ⟨c1, 1, none⟩ = some (.int .i64 N) := fun o => (h.x.h1.below (boxed w1 o) h.x.h1.lt).cell 1
  have HRN : Hid (rnx K N d s1 i x e = if (snd K N (nmS d i) x).2 then (decide ((s1.length : Int) + 1 < K), s1 ++ [(i, (snd K N (nmS d i) x).1)]) else (decide ((s1.length : Int) < K), s1)) := hid rfl
  unfold C.cv obv ptr at *
  clear h hq
  generalize snd K N (nmS d i) x = sn at *
  generalize nmS d i = nm at *
  obtain ⟨pay, ok⟩ := sn
  simp only at HRN HSN
  go_enter Tryz.func40, Tryz.ntmps40
  go_wp2_with fail
  refine HSN.mono ?_
  clear HSN f0 f1
  rintro y w2 ⟨rfl, hb2⟩
  have HB2 := hid (HB.out.trans (hb2.mono HB.out.size))
  clear hb2 HB
  have hk2 := Kpt.below HH.out.wt HB2.out
  have hx2 := RX.kept _ _ _ _ _ HX.out hk2
  obtain ⟨vh, vp, r1, r2, r3, r4, r5, r6⟩ := hx2.rows
  have g0 := hx2.h1.cell 0
  have HX2 := hid hx2
  have hlen := hx2.len
  clear hx2 hk2
  obtain ⟨ah, ch, rfl⟩ := row_slice r3
  obtain ⟨ap, cp, rfl⟩ := row_slice r4
  cases ok with
  | false =>
    have k0 := r1.cell 0
    rw [if_neg (by decide)] at HRN
    have HE : Hid (Q (.returned (.bool (decide ((s1.length : Int) < K)))) w2) := hid (by
      have := HQ.out w2 T1
      rw [HRN.out] at this
      exact this ⟨HH.out.wt.below HB2.out, { HX2.out with len := Nat.le_succ_of_le HX2.out.len, idx := fun p hp => Nat.lt_succ_of_lt (HX2.out.idx p hp) }, HH.out.sub, HH.out.kp.trans ((Kpt.below HH.out.wt HB2.out).sub HH.out.sub)⟩)
    generalize s1.length = D at *
    clear r1 r2 r3 r4 r5 r6 hlen
    go_wp2_with fail
    exact HE.out
  | true =>
    rw [if_pos rfl] at HRN
    have HR1 := hid r1
    have HR2 := hid r2
    have HR3 := hid r3
    have HR4 := hid r4
    have HT5 := hid r5
    have HT6 := hid r6
    have HLD : Hid (s1.length ≤ i) := hid hlen
    have HZZ : Hid (w.heap.size ≤ w2.heap.size) := hid (Nat.le_trans HH.out.kp.1 HB2.out.size)
    have HE : Hid (∀ w5 vh' vp', Has w5 c2 #[vh'] 82 → Has w5 c3 #[vp'] 62 → w5.ownsRow w.heap.size 3 1 vh' (s1.length + 1) (rdInts s1 ++ [.int .i64 (i : Int)]) → w5.ownsRow w.heap.size 9 1 vp' (s1.length + 1) (rdStrs s1 ++ [.string pay]) → Only (fun q => q = c2 ∨ q = c3 ∨ (Value.slice ah s1.length ch).ownBlock = some q ∨ (Value.slice ap s1.length cp).ownBlock = some q) w2 w5 → (∀ q, vh'.ownBlock = some q → (Value.slice ah s1.length ch).ownBlock = some q ∨ w2.heap.size ≤ q) → (∀ q, vp'.ownBlock = some q → (Value.slice ap s1.length cp).ownBlock = some q ∨ w2.heap.size ≤ q) → Q (.returned (.bool (decide ((s1.length : Int) + 1 < K)))) w5) := hid fun w5 vh' vp' e1 e2 e3 e4 e5 e6 e7 => by
      have hbw : Bes w0 w w2 b V1 T0 T1 (RX c1 c2 c3 K N w.heap.size i) s1 := ⟨HH.out.wt.below HB2.out, HX2.out, HH.out.sub, HH.out.kp.trans ((Kpt.below HH.out.wt HB2.out).sub HH.out.sub)⟩
      have hc1 : Has w5 c1 #[.int .i64 K, .int .i64 N] 25 := e5.has HX2.out.h1 fun hc => by
        rcases hc with hc | hc | hc | hc
        · exact Has.ne HX2.out.h1 HR1.out (by decide) hc
        · exact Has.ne HX2.out.h1 HR2.out (by decide) hc
        · obtain ⟨_, cur, hh⟩ := row_has HR3.out hc
          exact Has.ne HX2.out.h1 hh (by decide) rfl
        · obtain ⟨_, cur, hh⟩ := row_has HR4.out hc
          exact Has.ne HX2.out.h1 hh (by decide) rfl
      have hfin : Bes w0 w w5 b V1 T0 (fun q => T1 q ∨ (w2.heap.size ≤ q ∧ q < w5.heap.size)) (RX c1 c2 c3 K N w.heap.size (i + 1)) (s1 ++ [(i, pay)]) := by
        refine hbw.write e5 (fun q hq => ?_) hT0 hw ?_
        · rcases hq with rfl | rfl | hq | hq
          · exact ⟨HX2.out.t2, HX2.out.b2⟩
          · exact ⟨HX2.out.t3, HX2.out.b3⟩
          · exact ⟨HT5.out q hq, (row_has HR3.out hq).1⟩
          · exact ⟨HT6.out q hq, (row_has HR4.out hq).1⟩
        · refine ⟨.inl HX2.out.t1, .inl HX2.out.t2, .inl HX2.out.t3, HX2.out.b2, HX2.out.b3, by simp only [List.length_append, List.length_singleton]; have := HLD.out; omega, fun p hp => by
            rcases List.mem_append.1 hp with hp | hp
            · exact Nat.lt_succ_of_lt (HX2.out.idx p hp)
            · simp at hp; subst hp; exact Nat.lt_succ_self _, hc1, vh', vp', e1, e2, by simpa [rdInts] using e3, by simpa [rdStrs] using e4, fun q hq => ?_, fun q hq => ?_⟩
          · rcases e6 q hq with h | h
            · exact .inl (HT5.out q h)
            · obtain ⟨_, cur, hh⟩ := row_has e3 hq
              exact .inr ⟨h, hh.lt⟩
          · rcases e7 q hq with h | h
            · exact .inl (HT6.out q h)
            · obtain ⟨_, cur, hh⟩ := row_has e4 hq
              exact .inr ⟨h, hh.lt⟩
      have := HQ.out w5 (fun q => T1 q ∨ (w2.heap.size ≤ q ∧ q < w5.heap.size))
      rw [HRN.out] at this
      exact this hfin
    generalize hD : s1.length = D at *
    clear hlen r1 r2 r3 r4 r5 r6 hD
    have k0 := HR1.out.cell 0
    have hi6 := HLD.out
    have hz6 := HZZ.out
    go_wp2_with (at_builtin; first | (refine wpList_app3 el3 rfl _ _ rfl w.heap.size _ D _ rfl (HR3.out.alloc _) ⟨w2.heap.size, 0, none⟩ 1 1 [.int .i64 (i : Int)] rfl (by decide) rfl (new_cells w2 [.int .i64 (i : Int)] 3) (by simp [Value.oneCell']) (by omega) (by simp; omega) ?_; intro g3 cap3 w3 hr3 hg3 hf3; have HF3 := hid hf3; have A3 := hid (app_step HR1.out HR3.out hr3 hg3 (by decide)); have k2 := A3.out.1.cell 0; have k2f := A3.out.1.frozen 0; have H3 := hid (app_other A3.out.2.1 HR1.out HR3.out HR2.out (by decide)); have H4 := hid (app_row A3.out.2.1 HR1.out HR3.out HR4.out (by decide)); have HC := hid (app_other A3.out.2.1 HR1.out HR3.out HX2.out.h1 (by decide)); have k3 := H3.out.cell 0; have z3 := A3.out.2.1.size; clear k0 hr3 hg3 g0 hf3) | (refine wpList_app3 el9 rfl _ _ rfl w.heap.size _ D _ rfl (H4.out.alloc _) ⟨w3.heap.size, 0, none⟩ 1 1 [.string pay] rfl (by decide) rfl (by simpa using new_cells (w3.setCell ⟨c2, 0, none⟩ (.slice (some ⟨g3, 0, none⟩) (D + 1) cap3)) [.string pay] 9) (by simp [Value.oneCell']) (by omega) (by simp at z3 ⊢; omega) ?_; intro g4 cap4 w4 hr4 hg4 hf4; have HF4 := hid hf4; have A4 := hid (app_step H3.out H4.out hr4 hg4 (by decide)); have k4 := A4.out.1.cell 0; have k4f := A4.out.1.frozen 0; have H5 := hid (app_other A4.out.2.1 H3.out H4.out A3.out.2.2.1 (by decide)); have H6 := hid (app_row A4.out.2.1 H3.out H4.out A3.out.2.2.2 (by decide)); have H7 := hid (app_other A4.out.2.1 H3.out H4.out HC.out (by decide)); have k5 := H5.out.cell 0; have k7 := H7.out.cell 0; clear k2 k2f k3 hr4 hg4 hf4))
    refine HE.out _ _ _ H5.out A4.out.2.2.1 H6.out A4.out.2.2.2 ?_ ?_ ?_
    · refine (A3.out.2.1.mono fun q hq => ?_).trans (A4.out.2.1.mono (S' := fun q => q = c2 ∨ q = c3 ∨ (Value.slice ah D ch).ownBlock = some q ∨ (Value.slice ap D cp).ownBlock = some q) fun q hq => ?_) fun _ h => .inl h
      · rcases hq with h | h
        · exact .inl h
        · exact .inr (.inr (.inl h))
      · rcases hq with h | h
        · exact .inr (.inl h)
        · exact .inr (.inr (.inr h))
    · intro q hq
      cases hq
      rcases HF3.out with h | h
      · exact .inl h
      · exact .inr (by show w2.heap.size ≤ g3; simp at h; omega)
    · intro q hq
      cases hq
      rcases HF4.out with h | h
      · exact .inl h
      · exact .inr (by show w2.heap.size ≤ g4; simp at h z3; omega)
end Go.Proofs.YtffhobkoagnhhaaGreatDoor
/- Stripe: how the stores stand; count. -/
namespace Go.Proofs.YtffhobkoagnhhaaGreatDoor
open Go.RowKit Go.Maps
open W
variable {w0 w w' : World} {b : Nat} {V V' : Wd} {T T0 : Nat → Prop}
def stCells (st : List Nat) : List Value := st.map fun (x : Nat) => Value.int .i64 (x : Int)
/-- how many of the first k stand so -/
def cnt (st : List Nat) (so : Nat) : Nat → Nat
  | 0 => 0
  | k + 1 => cnt st so k + (if st.getD k 0 = so then 1 else 0)
theorem cnt_le (st : List Nat) (so : Nat) : ∀ k, cnt st so k ≤ k
  | 0 => Nat.le_refl _
  | k + 1 => by
    have := cnt_le st so k
    unfold cnt
    split <;> omega
theorem st_at {w : World} {B : Nat} {a : Option Addr} {n c : Nat} {st : List Nat} (h : w.ownsRow B 144 1 (.slice a n c) st.length (stCells st)) {k : Nat} (hk : k < st.length) : ∃ g, a = some ⟨g, 0, none⟩ ∧ w.cell? ⟨g, k, none⟩ = some (.int .i64 ((st.getD k 0 : Nat) : Int)) := by
  rcases row_form h with ⟨_, h0, _⟩ | ⟨g, cap, e, _, _, _, _, h5⟩
  · omega
  · cases e
    refine ⟨g, rfl, h5 k _ ?_⟩
    unfold stCells
    rw [List.getElem?_map, List.getD_eq_getElem?_getD, List.getElem?_eq_getElem hk]
    rfl
set_option maxHeartbeats 2000000 in
set_option maxRecDepth 20000 in
theorem count_any {B : Nat} {v : Value} {st : List Nat} (h : w.ownsRow B 144 1 v st.length (stCells st)) (hl : st.length ≤ 1000) (so : Nat) : Calls Tryz.prog 82 #[v, .int .i64 (so : Int)] w fun e w' => e = .returned (.int .i64 (cnt st so st.length : Int)) ∧ w' = w := by
  obtain ⟨a, c, rfl⟩ := row_slice h
  have HH := hid h
  clear h
  generalize hL : st.length = L at *
  have HL := hid hL
  clear hL
  go_enter Tryz.func82, Tryz.ntmps82
  go_wp2_with fail
  go_loopg [5, 7, 10] L (fun gk s5 s7 s10 wx => ∃ k : Nat, k + gk = L ∧ s10 = .int .i64 (k : Int) ∧ s5 = .int .i64 (cnt st so k : Int) ∧ wx = w)
  case atStart => exact ⟨0, by omega, rfl, rfl, rfl⟩
  case round =>
    obtain ⟨k, hk, rfl, rfl, rfl⟩ := hrel
    cases gk with
    | zero =>
      have q1 : ¬ ((k : Int) < (L : Int)) := by omega
      have hkL : k = L := by omega
      subst hkL
      go_wp2_with fail
      go_ret
      exact ⟨rfl, rfl⟩
    | succ g1 =>
      have q1 : (k : Int) < (L : Int) := by omega
      obtain ⟨g, rfl, c0⟩ := st_at (by rw [HL.out]; exact HH.out) (k := k) (by rw [HL.out]; omega)
      have hc := cnt_le st so k
      have HCN : Hid (cnt st so (k + 1) = cnt st so k + (if st.getD k 0 = so then 1 else 0)) := hid rfl
      generalize cnt st so k = C at *
      generalize st.getD k 0 = x at *
      by_cases hx : x = so
      · have q2 : ((x : Int) == (so : Int)) = true := by rw [hx]; simp
        rw [if_pos hx] at HCN
        clear hx
        go_wp2_with fail
        go_roundg g1
        case measure => omega
        case rel => exact ⟨k + 1, by omega, by first | rfl | simp, by rw [HCN.out]; first | rfl | simp, rfl⟩
      · have q2 : ((x : Int) == (so : Int)) = false := beq_eq_false_iff_ne.2 (by omega)
        rw [if_neg hx] at HCN
        clear hx
        go_wp2_with fail
        go_roundg g1
        case measure => omega
        case rel => exact ⟨k + 1, by omega, by first | rfl | simp, by rw [HCN.out]; first | rfl | simp, rfl⟩
end Go.Proofs.YtffhobkoagnhhaaGreatDoor
/- Stripe: whether a world, a code and a digest fit. Printed by gen_s3.py. -/
namespace Go.Proofs.YtffhobkoagnhhaaGreatDoor
open Go.RowKit Go.Maps
open W
section
variable {ev : Operand → Value} {o : Oper} {w : World} {x y : Operand}
theorem rn_load25 {g k : Nat} {v0 v1 : Value} (ho : o.op = .load 25 x) (hx : ev x = .pointer (some ⟨g, k, none⟩)) (h0 : w.cell? ⟨g, k, none⟩ = some v0) (h1 : w.cell? ⟨g, k + 1, none⟩ = some v1) : (execOp ev o).run Tryz.prog w = .ok (.value (.agg #[v0, v1])) w := by
  simp [execOp, ho, hx, go_sem, h0, h1]
theorem rn_f25_0 {g k : Nat} (ho : o.op = .fieldAddr 25 x 0) (hx : ev x = .pointer (some ⟨g, k, none⟩)) : (execOp ev o).run Tryz.prog w = .ok (.value (.pointer (some ⟨g, k, none⟩))) w := by
  simp [execOp, ho, hx, go_sem]
theorem rn_f25_1 {g k : Nat} (ho : o.op = .fieldAddr 25 x 1) (hx : ev x = .pointer (some ⟨g, k, none⟩)) : (execOp ev o).run Tryz.prog w = .ok (.value (.pointer (some ⟨g, k + 1, none⟩))) w := by
  simp [execOp, ho, hx, go_sem]
theorem rn_not {c : Bool} (ho : o.op = .unOp .not 4 x) (hx : ev x = .bool c) : (execOp ev o).run Tryz.prog w = .ok (.value (.bool (!c))) w := by
  simp [execOp, ho, hx, go_sem]
theorem rn_neq3 {u v : Int} (ho : o.op = .binOp .neq 3 x y 3) (hx : ev x = .int .i64 u) (hy : ev y = .int .i64 v) : (execOp ev o).run Tryz.prog w = .ok (.value (.bool (!decide (u = v)))) w := by
  have q : (u != v) = !decide (u = v) := by by_cases h : u = v <;> simp [h]
  simp [execOp, ho, hx, hy, go_sem, q]
theorem ens74 (args : Array Value) : (callFunc 74 args).run Tryz.prog w = .ok (.enter 74 args) w := by kernel_rfl
theorem ens75 (args : Array Value) : (callFunc 75 args).run Tryz.prog w = .ok (.enter 75 args) w := by kernel_rfl
end
variable {w0 w w' : World} {b : Nat} {V V' : Wd} {T : Nat → Prop}
def fitE (V : Wd) (K N : Int) : Int := if C.Mx.mayC K N = true ∧ N = (V.l.length : Int) then 0 else 1
def ftF (q b : Nat) (K N : Int) (n : Nat) (m z : Bool) (i : Nat) (v : Value) (_ : World) : Prop := match i with
  | 7 => v = .agg #[.int .i64 K, .int .i64 N] | 8 => v = .bool m | 9 => v = .bool (!m) | 10 => v = .bool (!m)
  | 11 => v = .pointer (some ⟨q, 1, none⟩) | 12 => v = .int .i64 N | 13 => v = .pointer (some ⟨b, 0, none⟩) | 14 => v = .int .i64 (n : Int)
  | 15 => v = .bool (!decide (N = (n : Int))) | 16 => v = .bool z
  | _ => True
def ftG (_q _b : Nat) (K N : Int) (_n : Nat) (m z : Bool) (i : Nat) (v : Value) (_ : World) : Prop := match i with
  | 7 => v = .agg #[.int .i64 K, .int .i64 N] | 8 => v = .bool m | 9 => v = .bool (!m) | 10 => v = .bool (!m) | 16 => v = .bool z
  | _ => True
set_option maxHeartbeats 2000000 in
set_option maxRecDepth 20000 in
theorem fits_any (h : WT w0 w b V T) (K N : Int) : Calls Tryz.prog 34 #[ptr b, C.cv K N] w fun e w' => e = .returned (er (fitE V K N)) ∧ Below w.heap.size w w' := by
  have HB := hid (boxed w (.cells #[.int .i64 K, .int .i64 N] 25))
  have HX := hid (Has.new w w.heap.size #[.int .i64 K, .int .i64 N] 25 rfl)
  have c0 := HX.out.cell 0
  have c1 := HX.out.cell 1
  have HWT := hid (h.below HB.out)
  obtain ⟨wa, hwa⟩ : ∃ wa, wa = w.alloc (.cells #[.int .i64 K, .int .i64 N] 25) := ⟨_, rfl⟩
  rw [← hwa] at HB HX HWT c0 c1
  have HLT : Hid (w.heap.size < wa.heap.size) := hid HX.out.lt
  have HN : Hid (∀ W', BelW wa W' → Calls Tryz.prog 75 #[.pointer (some ⟨b, 0, none⟩)] W' fun e w' => e = .returned (.int .i64 (V.l.length : Int)) ∧ w' = W') := hid fun W' hW => (HWT.out.below hW).n
  have HFE : Hid (fitE V K N = if C.Mx.mayC K N = true ∧ N = (V.l.length : Int) then 0 else 1) := hid rfl
  clear h HWT
  unfold C.cv ptr er
  generalize V.l.length = n at *
  cases hm : C.Mx.mayC K N with
  | false =>
    have HM := hid hm
    rw [hm, if_neg (by simp)] at HFE
    rw [HFE.out]
    clear hm HFE
    go_enter Tryz.func34, Tryz.ntmps34
    go_wp2_with fail
    rw [← hwa]
    clear hwa
    refine Tl.wp_mix_lit (by kernel_rfl) 10 [7, 8, 9, 10, 11, 12, 13, 14, 15, 16] 17 rfl (by kernel_rfl) (BelW wa) (ftG w.heap.size b K N n false true) ((Below.refl _ _).drew)
      ⟨fun a' W' hC hF => ?_, fun a' W' hC hF => ?_, fun a' W' hC hF => ?_, fun a' W' hC hF => ?_, fun a' W' hC hF => ?_, fun a' W' hC hF => ?_, fun a' W' hC hF => ?_, fun a' W' hC hF => ?_, fun a' W' hC hF => ?_, fun a' W' hC hF => ?_, trivial⟩ ?_
    · exact Tl.sm_v 7 _ rfl (Tl.wanted_none rfl) hC rfl (rn_load25 rfl ((hF 3 (by decide +kernel)).2 (by decide)) (BelW.cell hC (p := ⟨w.heap.size, 0, none⟩) HLT.out c0) (BelW.cell hC (p := ⟨w.heap.size, 1, none⟩) HLT.out c1))
    · refine Tl.sm_call 74 #[_] (Tl.wanted_none rfl) (rn_call1 rfl rfl ((hF 7 (by decide +kernel)).1 (by decide)) (ens74 _)) ((C.Mx.mayCode_any K N W').mono ?_)
      rintro e w'' ⟨rfl, hb⟩
      exact ⟨_, rfl, Below.trans hC (hb.mono hC.size), fun d v _ h => h, fun d hd => by cases hd; exact congrArg Value.bool HM.out⟩
    · exact Tl.sm_v 9 _ rfl (Tl.wanted_none rfl) hC rfl (rn_not rfl ((hF 8 (by decide +kernel)).1 (by decide)))
    · exact Tl.sm_v 10 _ rfl (Tl.wanted_none rfl) hC rfl (rn_move rfl ((hF 9 (by decide +kernel)).1 (by decide)))
    · exact Tl.sm_skip (Tl.wanted_not rfl rfl ((hF 10 (by decide +kernel)).1 (by decide))) (fun d hd => by cases hd; trivial)
    · exact Tl.sm_skip (Tl.wanted_not rfl rfl ((hF 10 (by decide +kernel)).1 (by decide))) (fun d hd => by cases hd; trivial)
    · exact Tl.sm_skip (Tl.wanted_not rfl rfl ((hF 10 (by decide +kernel)).1 (by decide))) (fun d hd => by cases hd; trivial)
    · exact Tl.sm_skip (Tl.wanted_not rfl rfl ((hF 10 (by decide +kernel)).1 (by decide))) (fun d hd => by cases hd; trivial)
    · exact Tl.sm_skip (Tl.wanted_not rfl rfl ((hF 10 (by decide +kernel)).1 (by decide))) (fun d hd => by cases hd; trivial)
    · exact Tl.sm_v 16 _ rfl (Tl.wanted_none rfl) hC rfl (rn_pickT rfl ((hF 10 (by decide +kernel)).1 (by decide)) rfl)
    intro v wB hw hv
    have v16 : v 16 = .bool true := hv 16 (by decide)
    have HBB := hid (HB.out.trans ((show Below wa.heap.size wa wB from hw).mono HB.out.size))
    clear hv hw
    simp only [Tl.fill, List.drop_succ_cons, List.drop_zero, wpList]
    simp only [Act.put, List.setIfInBounds_toArray, List.set_cons_succ, List.set_cons_zero, v16]
    clear v16
    go_wp2_with fail
    go_ret
    exact ⟨rfl, HBB.out⟩
  | true =>
    have HM := hid hm
    by_cases hN : N = (n : Int)
    · rw [hm, if_pos ⟨rfl, hN⟩] at HFE
      rw [HFE.out]
      have HNE := hid hN
      clear hm HFE hN
      go_enter Tryz.func34, Tryz.ntmps34
      go_wp2_with fail
      rw [← hwa]
      clear hwa
      refine Tl.wp_mix_lit (by kernel_rfl) 10 [7, 8, 9, 10, 11, 12, 13, 14, 15, 16] 17 rfl (by kernel_rfl) (BelW wa) (ftF w.heap.size b K N n true (!decide (N = (n : Int)))) ((Below.refl _ _).drew)
        ⟨fun a' W' hC hF => ?_, fun a' W' hC hF => ?_, fun a' W' hC hF => ?_, fun a' W' hC hF => ?_, fun a' W' hC hF => ?_, fun a' W' hC hF => ?_, fun a' W' hC hF => ?_, fun a' W' hC hF => ?_, fun a' W' hC hF => ?_, fun a' W' hC hF => ?_, trivial⟩ ?_
      · exact Tl.sm_v 7 _ rfl (Tl.wanted_none rfl) hC rfl (rn_load25 rfl ((hF 3 (by decide +kernel)).2 (by decide)) (BelW.cell hC (p := ⟨w.heap.size, 0, none⟩) HLT.out c0) (BelW.cell hC (p := ⟨w.heap.size, 1, none⟩) HLT.out c1))
      · refine Tl.sm_call 74 #[_] (Tl.wanted_none rfl) (rn_call1 rfl rfl ((hF 7 (by decide +kernel)).1 (by decide)) (ens74 _)) ((C.Mx.mayCode_any K N W').mono ?_)
        rintro e w'' ⟨rfl, hb⟩
        exact ⟨_, rfl, Below.trans hC (hb.mono hC.size), fun d v _ h => h, fun d hd => by cases hd; exact congrArg Value.bool HM.out⟩
      · exact Tl.sm_v 9 _ rfl (Tl.wanted_none rfl) hC rfl (rn_not rfl ((hF 8 (by decide +kernel)).1 (by decide)))
      · exact Tl.sm_v 10 _ rfl (Tl.wanted_none rfl) hC rfl (rn_move rfl ((hF 9 (by decide +kernel)).1 (by decide)))
      · exact Tl.sm_v 11 _ rfl (Tl.wanted_is rfl rfl ((hF 10 (by decide +kernel)).1 (by decide))) hC rfl (rn_f25_1 rfl ((hF 3 (by decide +kernel)).2 (by decide)))
      · exact Tl.sm_v 12 _ rfl (Tl.wanted_is rfl rfl ((hF 10 (by decide +kernel)).1 (by decide))) hC rfl (rn_load3 rfl ((hF 11 (by decide +kernel)).1 (by decide)) (BelW.cell hC (p := ⟨w.heap.size, 1, none⟩) HLT.out c1))
      · exact Tl.sm_v 13 _ rfl (Tl.wanted_is rfl rfl ((hF 10 (by decide +kernel)).1 (by decide))) hC rfl (rn_move rfl ((hF 0 (by decide +kernel)).2 (by decide)))
      · refine Tl.sm_call 75 #[_] (Tl.wanted_is rfl rfl ((hF 10 (by decide +kernel)).1 (by decide))) (rn_call1 rfl rfl ((hF 13 (by decide +kernel)).1 (by decide)) (ens75 _)) ((HN.out _ hC).mono ?_)
        rintro e w'' ⟨rfl, rfl⟩
        exact ⟨_, rfl, hC, fun d v _ h => h, fun d hd => by cases hd; rfl⟩
      · exact Tl.sm_v 15 _ rfl (Tl.wanted_is rfl rfl ((hF 10 (by decide +kernel)).1 (by decide))) hC rfl (rn_neq3 rfl ((hF 12 (by decide +kernel)).1 (by decide)) ((hF 14 (by decide +kernel)).1 (by decide)) )
      · exact Tl.sm_v 16 _ rfl (Tl.wanted_none rfl) hC rfl (rn_pickF rfl ((hF 10 (by decide +kernel)).1 (by decide)) ((hF 15 (by decide +kernel)).1 (by decide)))
      intro v wB hw hv
      have v16 : v 16 = .bool (!decide (N = (n : Int))) := hv 16 (by decide)
      have HBB := hid (HB.out.trans ((show Below wa.heap.size wa wB from hw).mono HB.out.size))
      clear hv hw
      simp only [Tl.fill, List.drop_succ_cons, List.drop_zero, wpList]
      simp only [Act.put, List.setIfInBounds_toArray, List.set_cons_succ, List.set_cons_zero, v16]
      clear v16
      rw [decide_eq_true HNE.out]
      go_wp2_with fail
      go_ret
      exact ⟨rfl, HBB.out⟩
    · rw [hm, if_neg (fun h => hN h.2)] at HFE
      rw [HFE.out]
      have HNE := hid hN
      clear hm HFE hN
      go_enter Tryz.func34, Tryz.ntmps34
      go_wp2_with fail
      rw [← hwa]
      clear hwa
      refine Tl.wp_mix_lit (by kernel_rfl) 10 [7, 8, 9, 10, 11, 12, 13, 14, 15, 16] 17 rfl (by kernel_rfl) (BelW wa) (ftF w.heap.size b K N n true (!decide (N = (n : Int)))) ((Below.refl _ _).drew)
        ⟨fun a' W' hC hF => ?_, fun a' W' hC hF => ?_, fun a' W' hC hF => ?_, fun a' W' hC hF => ?_, fun a' W' hC hF => ?_, fun a' W' hC hF => ?_, fun a' W' hC hF => ?_, fun a' W' hC hF => ?_, fun a' W' hC hF => ?_, fun a' W' hC hF => ?_, trivial⟩ ?_
      · exact Tl.sm_v 7 _ rfl (Tl.wanted_none rfl) hC rfl (rn_load25 rfl ((hF 3 (by decide +kernel)).2 (by decide)) (BelW.cell hC (p := ⟨w.heap.size, 0, none⟩) HLT.out c0) (BelW.cell hC (p := ⟨w.heap.size, 1, none⟩) HLT.out c1))
      · refine Tl.sm_call 74 #[_] (Tl.wanted_none rfl) (rn_call1 rfl rfl ((hF 7 (by decide +kernel)).1 (by decide)) (ens74 _)) ((C.Mx.mayCode_any K N W').mono ?_)
        rintro e w'' ⟨rfl, hb⟩
        exact ⟨_, rfl, Below.trans hC (hb.mono hC.size), fun d v _ h => h, fun d hd => by cases hd; exact congrArg Value.bool HM.out⟩
      · exact Tl.sm_v 9 _ rfl (Tl.wanted_none rfl) hC rfl (rn_not rfl ((hF 8 (by decide +kernel)).1 (by decide)))
      · exact Tl.sm_v 10 _ rfl (Tl.wanted_none rfl) hC rfl (rn_move rfl ((hF 9 (by decide +kernel)).1 (by decide)))
      · exact Tl.sm_v 11 _ rfl (Tl.wanted_is rfl rfl ((hF 10 (by decide +kernel)).1 (by decide))) hC rfl (rn_f25_1 rfl ((hF 3 (by decide +kernel)).2 (by decide)))
      · exact Tl.sm_v 12 _ rfl (Tl.wanted_is rfl rfl ((hF 10 (by decide +kernel)).1 (by decide))) hC rfl (rn_load3 rfl ((hF 11 (by decide +kernel)).1 (by decide)) (BelW.cell hC (p := ⟨w.heap.size, 1, none⟩) HLT.out c1))
      · exact Tl.sm_v 13 _ rfl (Tl.wanted_is rfl rfl ((hF 10 (by decide +kernel)).1 (by decide))) hC rfl (rn_move rfl ((hF 0 (by decide +kernel)).2 (by decide)))
      · refine Tl.sm_call 75 #[_] (Tl.wanted_is rfl rfl ((hF 10 (by decide +kernel)).1 (by decide))) (rn_call1 rfl rfl ((hF 13 (by decide +kernel)).1 (by decide)) (ens75 _)) ((HN.out _ hC).mono ?_)
        rintro e w'' ⟨rfl, rfl⟩
        exact ⟨_, rfl, hC, fun d v _ h => h, fun d hd => by cases hd; rfl⟩
      · exact Tl.sm_v 15 _ rfl (Tl.wanted_is rfl rfl ((hF 10 (by decide +kernel)).1 (by decide))) hC rfl (rn_neq3 rfl ((hF 12 (by decide +kernel)).1 (by decide)) ((hF 14 (by decide +kernel)).1 (by decide)) )
      · exact Tl.sm_v 16 _ rfl (Tl.wanted_none rfl) hC rfl (rn_pickF rfl ((hF 10 (by decide +kernel)).1 (by decide)) ((hF 15 (by decide +kernel)).1 (by decide)))
      intro v wB hw hv
      have v16 : v 16 = .bool (!decide (N = (n : Int))) := hv 16 (by decide)
      have HBB := hid (HB.out.trans ((show Below wa.heap.size wa wB from hw).mono HB.out.size))
      clear hv hw
      simp only [Tl.fill, List.drop_succ_cons, List.drop_zero, wpList]
      simp only [Act.put, List.setIfInBounds_toArray, List.set_cons_succ, List.set_cons_zero, v16]
      clear v16
      rw [decide_eq_false HNE.out]
      go_wp2_with fail
      go_ret
      exact ⟨rfl, HBB.out⟩
def askE (V : Wd) (K N : Int) (d : ByteArray) : Int := if fitE V K N = 0 then (if d.size = 32 then 0 else 1) else fitE V K N
set_option maxHeartbeats 2000000 in
set_option maxRecDepth 20000 in
theorem mayBeAsked_any (h : WT w0 w b V T) (K N : Int) (d : ByteArray) : Calls Tryz.prog 38 #[ptr b, C.cv K N, .string d] w fun e w' => e = .returned (er (askE V K N d)) ∧ Below w.heap.size w w' := by
  have HB := hid (boxed w (.cells #[.int .i64 K, .int .i64 N] 25))
  have HFT := fits_any (h.below HB.out) K N
  have HAE : Hid (askE V K N d = if fitE V K N = 0 then (if d.size = 32 then 0 else 1) else fitE V K N) := hid rfl
  have hz : fitE V K N = 0 ∨ fitE V K N = 1 := by unfold fitE; split <;> simp
  clear h
  unfold C.cv ptr er at *
  generalize fitE V K N = z at *
  rcases hz with rfl | rfl
  · rw [if_pos rfl] at HAE
    by_cases hd : d.size = 32
    · have q1 : ((d.size : Int) != 32) = false := by simp [hd]
      rw [if_pos hd] at HAE
      rw [HAE.out]
      clear hd HAE
      go_enter Tryz.func38, Tryz.ntmps38
      go_wp2_with fail
      refine HFT.mono ?_
      clear HFT
      rintro x w1 ⟨rfl, hb1⟩
      have HBB := hid (HB.out.trans (hb1.mono HB.out.size))
      clear hb1
      go_wp2_with fail
      go_ret
      exact ⟨rfl, HBB.out⟩
    · have q1 : ((d.size : Int) != 32) = true := by simp; omega
      rw [if_neg hd] at HAE
      rw [HAE.out]
      clear hd HAE
      go_enter Tryz.func38, Tryz.ntmps38
      go_wp2_with fail
      refine HFT.mono ?_
      clear HFT
      rintro x w1 ⟨rfl, hb1⟩
      have HBB := hid (HB.out.trans (hb1.mono HB.out.size))
      clear hb1
      go_wp2_with fail
      go_ret
      exact ⟨rfl, HBB.out⟩
  · rw [if_neg (by decide)] at HAE
    rw [HAE.out]
    clear HAE
    go_enter Tryz.func38, Tryz.ntmps38
    go_wp2_with fail
    refine HFT.mono ?_
    clear HFT
    rintro x w1 ⟨rfl, hb1⟩
    have HBB := hid (HB.out.trans (hb1.mono HB.out.size))
    clear hb1
    go_wp2_with fail
    go_ret
    exact ⟨rfl, HBB.out⟩
end Go.Proofs.YtffhobkoagnhhaaGreatDoor
