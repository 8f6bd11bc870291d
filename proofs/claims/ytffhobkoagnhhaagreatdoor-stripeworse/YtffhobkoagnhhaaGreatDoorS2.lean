/- The document's Decode. -/
import Derived.Test.YtffhobkoagnhhaaGreatDoorCCDec
import Derived.BigQuiet
import Derived.Test.YtffhobkoagnhhaaGreatDoorWW11
import Derived.Test.YtffhobkoagnhhaaGreatDoorHSRead
import Derived.Test.YtffhobkoagnhhaaGreatDoorHSName
import Derived.Test.YtffhobkoagnhhaaGreatDoorCCMap
import Derived.Laws.StructEq
namespace Go.Proofs.YtffhobkoagnhhaaGreatDoor.C
open Go.RowKit
/-- what Decode answers, as an ending -/
def DecAns (K N : Int) (zs : List Int) (ps : List (List Nat)) (w w' : World) (e : Ending) : Prop := ∃ s er, e = .returned (.tuple #[.string (ofBs s), .int .i64 er]) ∧ DecIs K N zs ps s er ∧ Below w.heap.size w w'
end Go.Proofs.YtffhobkoagnhhaaGreatDoor.C
/- Decode and Rebuild, the program's and the document's; CodeDecodes. -/
namespace Go.Proofs.YtffhobkoagnhhaaGreatDoor.C
open Go.RowKit
theorem decode_any (K N : Int) (vz vp : Value) (zs : List Int) (ps : List (List Nat)) (w : World) (hz : Ints64 w vz zs) (hp : Strs w vp ps) :
    Calls Tryz.prog 42 #[cv K N, vz, vp] w fun e w' => DecAns K N zs ps w w' e := by
  have bA : Below w.heap.size w (w.alloc (.cells #[.int .i64 K, .int .i64 N] 25)) := (Below.refl _ _).alloc (Nat.le_refl _) _
  have hw := whole_any K N vz vp zs ps _ ⟨hz.1.below bA, hz.2⟩ (hp.below bA)
  unfold cv at hw ⊢
  go_enter Tryz.func42, Tryz.ntmps42
  go_wp2_with fail
  refine hw.mono ?_
  rintro e w1 ⟨s, r, er, rfl, hd, _, b1⟩
  have HD := hid hd
  clear hd
  go_wp2_with fail
  go_ret2
  exact ⟨s, er, rfl, HD.out, belowCall bA b1⟩
end Go.Proofs.YtffhobkoagnhhaaGreatDoor.C
/- Stripe: the world and what lies beside it; sound. -/
namespace Go.Proofs.YtffhobkoagnhhaaGreatDoor
open Go.RowKit Go.Maps
open W
variable {w0 w w' : World} {b : Nat} {V V' : Wd} {T : Nat → Prop}
/-- the world V lies in block b, made since w0; the blocks of T are none of it -/
def WT (w0 w : World) (b : Nat) (V : Wd) (T : Nat → Prop) : Prop := ∃ S g, IsWd w S b g V ∧ (∀ i, S i → w0.heap.size ≤ i) ∧ Below w0.heap.size w0 w ∧ ∀ i, T i → ¬ S i ∧ i < w.heap.size
/-- the blocks of T stand as they stood -/
def Kpt (T : Nat → Prop) (w w' : World) : Prop := w.heap.size ≤ w'.heap.size ∧ ∀ i, T i → w'.heap[i]? = w.heap[i]?
theorem Kpt.trans {w1 w2 w3 : World} (h : Kpt T w1 w2) (k : Kpt T w2 w3) : Kpt T w1 w3 := ⟨Nat.le_trans h.1 k.1, fun i hi => (k.2 i hi).trans (h.2 i hi)⟩
theorem Kpt.sub {T' : Nat → Prop} (h : Kpt T w w') (hT : ∀ i, T' i → T i) : Kpt T' w w' := ⟨h.1, fun i hi => h.2 i (hT i hi)⟩
theorem Kpt.below (h : WT w0 w b V T) (hb : Below w.heap.size w w') : Kpt T w w' := by
  obtain ⟨S, g, _, _, _, h4⟩ := h
  exact ⟨hb.size, fun i hi => hb.block i (h4 i hi).2⟩
theorem WT.base (h : WT w0 w b V T) : Below w0.heap.size w0 w := by
  obtain ⟨S, g, _, _, h3, _⟩ := h
  exact h3
theorem WT.lt (h : WT w0 w b V T) : ∀ i, T i → i < w.heap.size := by
  obtain ⟨S, g, _, _, _, h4⟩ := h
  exact fun i hi => (h4 i hi).2
theorem WT.lay (h : WT w0 w b V T) (hl : H.Lay w0) : H.Lay w := hl.below h.base
theorem WT.sub {T' : Nat → Prop} (h : WT w0 w b V T) (hT : ∀ i, T' i → T i) : WT w0 w b V T' := by
  obtain ⟨S, g, h1, h2, h3, h4⟩ := h
  exact ⟨S, g, h1, h2, h3, fun i hi => h4 i (hT i hi)⟩
theorem WT.below (h : WT w0 w b V T) (hb : Below w.heap.size w w') : WT w0 w' b V T := by
  obtain ⟨S, g, h1, h2, h3, h4⟩ := h
  exact ⟨S, g, h1.below hb, h2, h3.trans (hb.mono h3.size), fun i hi => ⟨(h4 i hi).1, Nat.lt_of_lt_of_le (h4 i hi).2 hb.size⟩⟩
/-- what was made since is none of it -/
theorem WT.new (h : WT w0 w b V T) (hb : Below w.heap.size w w') : WT w0 w' b V (fun i => T i ∨ (w.heap.size ≤ i ∧ i < w'.heap.size)) := by
  obtain ⟨S, g, h1, h2, h3, h4⟩ := h
  refine ⟨S, g, h1.below hb, h2, h3.trans (hb.mono h3.size), fun i hi => ?_⟩
  rcases hi with hi | hi
  · exact ⟨(h4 i hi).1, Nat.lt_of_lt_of_le (h4 i hi).2 hb.size⟩
  · exact ⟨fun hS => by have := h1.bound i hS; omega, hi.2⟩
/-- what is beside it is written -/
theorem WT.only (h : WT w0 w b V T) (ho : Only T w w') (hT : ∀ i, T i → w0.heap.size ≤ i) : WT w0 w' b V T := by
  obtain ⟨S, g, h1, h2, h3, h4⟩ := h
  exact ⟨S, g, h1.only ho (fun i hi hT => (h4 i hT).1 hi), h2, h3.trans (ho.below h3.size hT), fun i hi => ⟨(h4 i hi).1, Nat.lt_of_lt_of_le (h4 i hi).2 ho.size⟩⟩
theorem WT.go (h : WT w0 w b V T) : ∃ S g, IsWd w S b g V ∧ (∀ i, S i → w0.heap.size ≤ i) ∧ ∀ w' V', AfterW w w' S b g V' → WT w0 w' b V' T ∧ Kpt T w w' := by
  obtain ⟨S, g, h1, h2, h3, h4⟩ := h
  refine ⟨S, g, h1, h2, fun w' V' ⟨S', a1, a2, a3⟩ => ⟨⟨S', g, a1, fun i hi => ?_, h3.trans (a3.below h3.size h2), fun i hi => ⟨fun hS => ?_, Nat.lt_of_lt_of_le (h4 i hi).2 a3.size⟩⟩, a3.size, fun i hi => a3.block i (h4 i hi).2 (h4 i hi).1⟩⟩
  · rcases a2 i hi with h | h
    · exact h2 i h
    · exact Nat.le_trans h3.size h
  · rcases a2 i hS with h | h
    · exact (h4 i hi).1 h
    · have := (h4 i hi).2
      omega
theorem WT.n (h : WT w0 w b V T) : Calls Tryz.prog 75 #[ptr b] w fun e w' => e = .returned (.int .i64 (V.l.length : Int)) ∧ w' = w := by
  obtain ⟨S, g, h1, _⟩ := h
  exact n_any h1
theorem WT.get (h : WT w0 w b V T) (hc : V.calls ≤ 1000000) (hl : V.left < 9223372036854775808) (i : Int) (n : ByteArray) (hn : n.size ≤ 1000000) : Calls Tryz.prog 46 #[ptr b, .int .i64 i, .string n] w fun e w' => e = .returned (.tuple #[.string (getW V i n).1, er (getW V i n).2]) ∧ WT w0 w' b (askW V i) T ∧ Kpt T w w' := by
  obtain ⟨S, g, h1, _, k⟩ := h.go
  exact (wget_any h1 hc hl i n hn).mono fun _ _ ⟨e1, e2⟩ => ⟨e1, k _ _ e2⟩
theorem WT.put (h : WT w0 w b V T) (hc : V.calls ≤ 1000000) (hl : V.left < 9223372036854775808) {N : Nat} (hF : ∀ x ∈ V.l, Fit N x.st) (hN : N ≤ 1000000) (i : Int) (n d : ByteArray) : Calls Tryz.prog 45 #[ptr b, .int .i64 i, obv n d] w fun e w' => e = .returned (er (askS V i fun s => putS s n d).1) ∧ WT w0 w' b (askS V i fun s => putS s n d).2 T ∧ Kpt T w w' := by
  obtain ⟨S, g, h1, _, k⟩ := h.go
  exact (wput_any h1 hc hl hF hN i n d).mono fun _ _ ⟨e1, e2⟩ => ⟨e1, k _ _ e2⟩
theorem WT.sync (h : WT w0 w b V T) (hc : V.calls ≤ 1000000) (hl : V.left < 9223372036854775808) (i : Int) : Calls Tryz.prog 86 #[ptr b, .int .i64 i] w fun e w' => e = .returned (er (askS V i W.sync).1) ∧ WT w0 w' b (askS V i W.sync).2 T ∧ Kpt T w w' := by
  obtain ⟨S, g, h1, _, k⟩ := h.go
  exact (wsync_any h1 hc hl i).mono fun _ _ ⟨e1, e2⟩ => ⟨e1, k _ _ e2⟩
/-- a block of T holds what it held -/
theorem Kpt.has (h : Kpt T w w') {q : Nat} (hq : T q) {cs : Array Value} {t : TypeId} (hh : Has w q cs t) : Has w' q cs t := by
  have := h.2 q hq
  unfold Has at *
  rw [this]
  exact hh
theorem neq25 (w : World) (a b c d : Int) : (binOp .neq 25 (.agg #[.int .i64 a, .int .i64 b]) (.agg #[.int .i64 c, .int .i64 d])).run Tryz.prog w = .ok (.bool (!(decide (a = c) && decide (b = d)))) w := by
  by_cases h1 : a = c
  · subst h1
    by_cases h2 : b = d
    · subst h2; simp [go_sem]
    · simp [go_sem, h2]
  · simp [go_sem, h1]
/-- the payload of what a store has under its shard's name, and whether that is sound -/
def snd (K N : Int) (a s : ByteArray) : ByteArray × Bool := if H.rdOk a s = true ∧ H.fB s 4 = K ∧ H.fB s 5 = N then (H.fP s, true) else (⟨#[]⟩, false)
set_option maxHeartbeats 2000000 in
set_option maxRecDepth 20000 in
theorem sound_any (K N : Int) (a s : ByteArray) (w : World) (hl : H.Lay w) : Calls Tryz.prog 41 #[C.cv K N, obv a s] w fun e w' => e = .returned (.tuple #[.string (snd K N a s).1, .bool (snd K N a s).2]) ∧ Below w.heap.size w w' := by
  have HB := hid ((boxed w (.cells #[.int .i64 K, .int .i64 N] 25)).trans ((boxed (w.alloc (.cells #[.int .i64 K, .int .i64 N] 25)) (.cells #[.string a, .string s] 64)).mono (by simp)))
  have HX := hid ((Has.new w w.heap.size #[.int .i64 K, .int .i64 N] 25 rfl).below (boxed (w.alloc (.cells #[.int .i64 K, .int .i64 N] 25)) (.cells #[.string a, .string s] 64)) (by simp))
  have HRD := H.read_any a s _ (hl.below HB.out)
  unfold H.rdV at HRD
  unfold H.obv at HRD
  unfold C.cv obv
  have HSN : Hid (snd K N a s = if H.rdOk a s = true ∧ H.fB s 4 = K ∧ H.fB s 5 = N then (H.fP s, true) else (⟨#[]⟩, false)) := hid rfl
  clear hl
  by_cases hr : H.rdOk a s = true
  · rw [if_pos hr] at HRD
    unfold H.shc at HRD
    generalize H.fB s 4 = k at *
    generalize H.fB s 5 = n at *
    generalize H.fB s 6 = i at *
    generalize H.fD s = d at *
    generalize H.fP s = p at *
    by_cases hk : k = K ∧ n = N
    · rw [if_pos ⟨hr, hk⟩] at HSN
      rw [HSN.out]
      have qn : ∀ w, (binOp .neq 25 (.agg #[.int .i64 k, .int .i64 n]) (.agg #[.int .i64 K, .int .i64 N])).run Tryz.prog w = .ok (.bool false) w := fun w => by rw [neq25, hk.1, hk.2]; simp
      clear hk hr HSN
      go_enter Tryz.func41, Tryz.ntmps41
      go_wp2_with fail
      refine HRD.mono ?_
      clear HRD
      rintro x w1 ⟨rfl, hb1⟩
      have HB1 := hid (HB.out.trans (hb1.mono HB.out.size))
      have hx1 := HX.out.below hb1 HX.out.lt
      have f0 : ∀ o, (w1.alloc o).cell? ⟨w.heap.size, 0, none⟩ = some (.int .i64 K) := fun o => (hx1.below (boxed w1 o) hx1.lt).cell 0
      have f1 : ∀ o, (w1.alloc o).cell? ⟨w.heap.size, 1, none⟩ = some (.int .i64 N) := fun o => (hx1.below (boxed w1 o) hx1.lt).cell 1
      have HB2 : Hid (∀ o, Below w.heap.size w (w1.alloc o)) := hid fun o => HB1.out.trans ((boxed w1 o).mono HB1.out.size)
      clear hb1 hx1
      go_wp2_with fail
      go_ret2
      exact ⟨rfl, HB2.out _⟩
    · rw [if_neg (fun h => hk h.2)] at HSN
      rw [HSN.out]
      have qn : ∀ w, (binOp .neq 25 (.agg #[.int .i64 k, .int .i64 n]) (.agg #[.int .i64 K, .int .i64 N])).run Tryz.prog w = .ok (.bool true) w := fun w => by
        rw [neq25]
        have : (decide (k = K) && decide (n = N)) = false := by
          rw [← Bool.decide_and]
          exact decide_eq_false hk
        rw [this]
        rfl
      clear hk hr HSN
      go_enter Tryz.func41, Tryz.ntmps41
      go_wp2_with fail
      refine HRD.mono ?_
      clear HRD
      rintro x w1 ⟨rfl, hb1⟩
      have HB1 := hid (HB.out.trans (hb1.mono HB.out.size))
      have hx1 := HX.out.below hb1 HX.out.lt
      have f0 : ∀ o, (w1.alloc o).cell? ⟨w.heap.size, 0, none⟩ = some (.int .i64 K) := fun o => (hx1.below (boxed w1 o) hx1.lt).cell 0
      have f1 : ∀ o, (w1.alloc o).cell? ⟨w.heap.size, 1, none⟩ = some (.int .i64 N) := fun o => (hx1.below (boxed w1 o) hx1.lt).cell 1
      have HB2 : Hid (∀ o, Below w.heap.size w (w1.alloc o)) := hid fun o => HB1.out.trans ((boxed w1 o).mono HB1.out.size)
      clear hb1 hx1
      go_wp2_with fail
      go_ret2
      exact ⟨rfl, HB2.out _⟩
  · rw [if_neg hr] at HRD
    rw [if_neg (fun h => hr h.1)] at HSN
    rw [HSN.out]
    unfold H.noS H.shc at HRD
    clear hr HSN
    go_enter Tryz.func41, Tryz.ntmps41
    go_wp2_with fail
    refine HRD.mono ?_
    clear HRD
    rintro x w1 ⟨rfl, hb1⟩
    have HB1 := hid (HB.out.trans (hb1.mono HB.out.size))
    have HB2 : Hid (∀ o, Below w.heap.size w (w1.alloc o)) := hid fun o => HB1.out.trans ((boxed w1 o).mono HB1.out.size)
    clear hb1
    go_wp2_with fail
    go_ret2
    exact ⟨rfl, HB2.out _⟩
end Go.Proofs.YtffhobkoagnhhaaGreatDoor
/- Stripe: ask: store by store, till the closure says no. Printed by gen_s2.py. -/
namespace Go.Proofs.YtffhobkoagnhhaaGreatDoor
open Go.RowKit Go.Maps
open W
variable {w0 w w' : World} {b : Nat} {V V' : Wd} {T T0 : Nat → Prop} {σ : Type}
/-- the name of the shard of a store -/
def nmS (d : ByteArray) (i : Nat) : ByteArray := H.ofBs (H.nm (H.bs d) (i : Int))
def askG (d : ByteArray) (nx : σ → Nat → ByteArray → Int → Bool × σ) : Nat → Nat → Wd → σ → Int × Wd × σ
  | 0, _, V, s => (0, V, s)
  | n + 1, i, V, s =>
    if (getW V (i : Int) (nmS d i)).2 = 56 then (56, askW V (i : Int), s)
    else if (nx s i (getW V (i : Int) (nmS d i)).1 (getW V (i : Int) (nmS d i)).2).1 then askG d nx n (i + 1) (askW V (i : Int)) (nx s i (getW V (i : Int) (nmS d i)).1 (getW V (i : Int) (nmS d i)).2).2
    else (0, askW V (i : Int), (nx s i (getW V (i : Int) (nmS d i)).1 (getW V (i : Int) (nmS d i)).2).2)
theorem askG_succ (d : ByteArray) (nx : σ → Nat → ByteArray → Int → Bool × σ) (n i : Nat) (V : Wd) (s : σ) : askG d nx (n + 1) i V s = if (getW V (i : Int) (nmS d i)).2 = 56 then (56, askW V (i : Int), s) else if (nx s i (getW V (i : Int) (nmS d i)).1 (getW V (i : Int) (nmS d i)).2).1 then askG d nx n (i + 1) (askW V (i : Int)) (nx s i (getW V (i : Int) (nmS d i)).1 (getW V (i : Int) (nmS d i)).2).2 else (0, askW V (i : Int), (nx s i (getW V (i : Int) (nmS d i)).1 (getW V (i : Int) (nmS d i)).2).2) := rfl
theorem countW_small (V : Wd) : (countW V).calls = V.calls + 1 ∧ (countW V).left ≤ V.left ∧ (countW V).l = V.l := by
  unfold countW
  split
  · split
    · exact ⟨rfl, Nat.le_refl _, rfl⟩
    · exact ⟨rfl, Nat.sub_le _ _, rfl⟩
  · exact ⟨rfl, Nat.le_refl _, rfl⟩
theorem askW_small (V : Wd) (i : Int) : (askW V i).calls ≤ V.calls + 1 ∧ (askW V i).left ≤ V.left ∧ (askW V i).l = V.l := by
  unfold askW
  split
  · exact ⟨Nat.le_of_eq (countW_small V).1, (countW_small V).2⟩
  · exact ⟨Nat.le_succ _, Nat.le_refl _, rfl⟩
/-- what lies beside the world: its blocks are none of the world's, what stood before stands -/
structure Bes (w0 w wx : World) (b : Nat) (V : Wd) (T0 T : Nat → Prop) (X : World → (Nat → Prop) → σ → Prop) (s : σ) : Prop where
  wt : WT w0 wx b V T
  x : X wx T s
  sub : ∀ i, T0 i → T i
  kp : Kpt T0 w wx
theorem Bes.below {wx wy : World} {X : World → (Nat → Prop) → σ → Prop} {s : σ} (h : Bes w0 w wx b V T0 T X s) (hX : ∀ w w' T s, X w T s → Kpt T w w' → X w' T s) (hb : Below wx.heap.size wx wy) : Bes w0 w wy b V T0 T X s :=
  ⟨h.wt.below hb, hX _ _ _ _ h.x (Kpt.below h.wt hb), h.sub, h.kp.trans ((Kpt.below h.wt hb).sub h.sub)⟩
theorem Bes.call {wx wy : World} {X : World → (Nat → Prop) → σ → Prop} {s : σ} (h : Bes w0 w wx b V T0 T X s) (hX : ∀ w w' T s, X w T s → Kpt T w w' → X w' T s) (hw : WT w0 wy b V' T ∧ Kpt T wx wy) : Bes w0 w wy b V' T0 T X s :=
  ⟨hw.1, hX _ _ _ _ h.x hw.2, h.sub, h.kp.trans (hw.2.sub h.sub)⟩
theorem nmS_size (d : ByteArray) (hd : d.size ≤ 1000) (i : Nat) (hi : i < 1000) : (nmS d i).size ≤ 1000000 := by
  unfold nmS H.nm
  rw [H.ofBs_size]
  have h1 := H.dec_length (i : Int) (by omega) (by omega)
  simp only [List.length_append, H.hex_length, H.bs_length, List.length_singleton]
  omega
set_option maxHeartbeats 4000000 in
set_option maxRecDepth 20000 in
theorem ask40_any (d : ByteArray) (hd : d.size ≤ 1000) (c1 c2 c3 : Nat) (nx : σ → Nat → ByteArray → Int → Bool × σ) (X : Nat → World → (Nat → Prop) → σ → Prop) (hX : ∀ k w w' T s, X k w T s → Kpt T w w' → X k w' T s) {s : σ}
    (hcl : ∀ (w1 : World) (V1 : Wd) (T1 : Nat → Prop) (s1 : σ) (i : Nat) (x : ByteArray) (e : Int) (Q : Ending → World → Prop), i < V.l.length → Bes w0 w w1 b V1 T0 T1 (X i) s1 → (∀ w2 T2, Bes w0 w w2 b V1 T0 T2 (X (i + 1)) (nx s1 i x e).2 → Q (.returned (.bool (nx s1 i x e).1)) w2) → Calls Tryz.prog 40 #[.int .i64 (i : Int), obv (nmS d i) x, .int .i64 e, ptr c1, ptr c2, ptr c3] w1 Q)
    {wz : World} (h : Bes w0 w wz b V T0 T (X 0) s) (hl : H.Lay w0) (hn : V.l.length ≤ 12) (hc : V.calls ≤ 900000) (hf : V.left < 9223372036854775808) (Q : Ending → World → Prop)
    (hq : ∀ w' T' k, k ≤ V.l.length → Bes w0 w w' b (askG d nx V.l.length 0 V s).2.1 T0 T' (X k) (askG d nx V.l.length 0 V s).2.2 → Q (.returned (er (askG d nx V.l.length 0 V s).1)) w') : Calls Tryz.prog 39 #[ptr b, .string d, .func (.func 40) #[] #[ptr c1, ptr c2, ptr c3]] wz Q := by
  have HQ := hid hq
  have HX := hid hX
  have HCL := hid hcl
  have HH := hid h
  have HL := hid hl
  have HNN := h.wt.n
  have HC := hid hc
  have HF := hid hf
  clear hq hX hcl h hl hc hf
  unfold ptr at *
  generalize hnn : V.l.length = n at *
  have HN := hid hnn
  clear hnn
  go_enter Tryz.func39, Tryz.ntmps39
  go_wp2_with fail
  refine HNN.mono ?_
  clear HNN
  rintro x w1 ⟨rfl, rfl⟩
  go_wp2_with fail
  go_loopg [7, 8, 9, 10, 13] n (fun gk s7 s8 s9 s10 s13 wx => ∃ (k : Nat) (V1 : Wd) (T1 : Nat → Prop) (s1 : σ), k + gk = n ∧ s13 = .int .i64 (k : Int) ∧ Hid (Bes w0 w wx b V1 T0 T1 (X k) s1 ∧ V1.l.length = n ∧ V1.calls ≤ V.calls + k ∧ V1.left < 9223372036854775808 ∧ askG d nx gk k V1 s1 = askG d nx n 0 V s))
  case atStart => exact ⟨0, V, T, s, by omega, rfl, hid ⟨HH.out, HN.out, Nat.le_refl _, HF.out, rfl⟩⟩
  case round =>
    obtain ⟨k, V1, T1, s1, hk, rfl, HJ⟩ := hrel
    cases gk with
    | zero =>
      have q1 : ¬ ((k : Int) < (n : Int)) := by omega
      have he := HJ.out.2.2.2.2
      have HE := hid (show Q (.returned (er 0)) wr from by
        have := HQ.out wr T1 k (by omega)
        rw [← he] at this
        exact this HJ.out.1)
      unfold er at HE
      clear he
      go_wp2_with fail
      exact HE.out
    | succ g1 =>
      have q1 : (k : Int) < (n : Int) := by omega
      have hkn : k < n := by omega
      have HNM : Calls Tryz.prog 47 #[.string d, .int .i64 (k : Int)] wr fun e w' => e = .returned (.string (nmS d k)) ∧ Below wr.heap.size wr w' := H.name_any d (k : Int) (by omega) (by omega) (by omega) wr (HJ.out.1.wt.lay HL.out)
      have HKK := hid hk
      clear hk
      go_wp2_with fail
      refine HNM.mono ?_
      clear HNM
      rintro x w2 ⟨rfl, hb2⟩
      have hj2 := HJ.out.1.below (HX.out k) hb2
      have hc1 := HJ.out.2.2.1
      have hc0 := HC.out
      have HGT := hj2.wt.get (by omega) HJ.out.2.2.2.1 (k : Int) (nmS d k) (nmS_size d hd k (by omega))
      have HB2 := hid hj2
      have he := HJ.out.2.2.2.2
      rw [askG_succ] at he
      have HE := hid he
      have hsm := askW_small V1 (k : Int)
      have hlf := HJ.out.2.2.2.1
      have HSM : Hid ((askW V1 (k : Int)).l.length = n ∧ (askW V1 (k : Int)).calls ≤ V.calls + (k + 1) ∧ (askW V1 (k : Int)).left < 9223372036854775808) := hid ⟨by rw [hsm.2.2]; exact HJ.out.2.1, by omega, by omega⟩
      unfold er ptr at HGT
      clear hj2 hb2 he hsm hlf hc1 hc0
      generalize getW V1 (k : Int) (nmS d k) = gg at *
      generalize askW V1 (k : Int) = V2 at *
      go_wp2_with fail
      refine HGT.mono ?_
      clear HGT
      rintro x w3 ⟨rfl, hw3⟩
      have HB3 := hid (HB2.out.call (HX.out k) hw3)
      clear hw3 HB2 HJ
      obtain ⟨dt, z⟩ := gg
      simp only at HE
      by_cases hz : z = 56
      · subst hz
        rw [if_pos rfl] at HE
        have HR := hid (show Q (.returned (er 56)) w3 from by
          have := HQ.out w3 T1 k (by omega)
          rw [← HE.out] at this
          exact this HB3.out)
        unfold er at HR
        go_wp2_with fail
        exact HR.out
      · have q2 : (z == 56) = false := by simpa using hz
        rw [if_neg hz] at HE
        have HC3 := HCL.out w3 V2 T1 s1 k dt z
        unfold obv at HC3
        clear hz
        go_wp2_with fail
        refine HC3 _ hkn HB3.out fun w4 T4 hb4 => ?_
        clear HC3
        have HB4 := hid hb4
        clear hb4 HB3
        cases hnx : (nx s1 k dt z).1 with
        | true =>
          rw [hnx, if_pos rfl] at HE
          clear hnx
          go_wp2_with fail
          go_roundg g1
          case measure => omega
          case rel => exact ⟨k + 1, V2, T4, _, by have := HKK.out; omega, by first | rfl | simp, hid ⟨HB4.out, HSM.out.1, HSM.out.2.1, HSM.out.2.2, HE.out⟩⟩
        | false =>
          rw [hnx, if_neg (by decide)] at HE
          clear hnx
          have HR := hid (show Q (.returned (er 0)) w4 from by
            have := HQ.out w4 T4 (k + 1) (by omega)
            rw [← HE.out] at this
            exact this HB4.out)
          unfold er at HR
          go_wp2_with fail
          exact HR.out
set_option maxHeartbeats 4000000 in
set_option maxRecDepth 20000 in
theorem ask43_any (d : ByteArray) (hd : d.size ≤ 1000) (c1 c2 : Nat) (nx : σ → Nat → ByteArray → Int → Bool × σ) (X : Nat → World → (Nat → Prop) → σ → Prop) (hX : ∀ k w w' T s, X k w T s → Kpt T w w' → X k w' T s) {s : σ}
    (hcl : ∀ (w1 : World) (V1 : Wd) (T1 : Nat → Prop) (s1 : σ) (i : Nat) (x : ByteArray) (e : Int) (Q : Ending → World → Prop), i < V.l.length → Bes w0 w w1 b V1 T0 T1 (X i) s1 → (∀ w2 T2, Bes w0 w w2 b V1 T0 T2 (X (i + 1)) (nx s1 i x e).2 → Q (.returned (.bool (nx s1 i x e).1)) w2) → Calls Tryz.prog 43 #[.int .i64 (i : Int), obv (nmS d i) x, .int .i64 e, ptr c1, ptr c2] w1 Q)
    {wz : World} (h : Bes w0 w wz b V T0 T (X 0) s) (hl : H.Lay w0) (hn : V.l.length ≤ 12) (hc : V.calls ≤ 900000) (hf : V.left < 9223372036854775808) (Q : Ending → World → Prop)
    (hq : ∀ w' T' k, k ≤ V.l.length → Bes w0 w w' b (askG d nx V.l.length 0 V s).2.1 T0 T' (X k) (askG d nx V.l.length 0 V s).2.2 → Q (.returned (er (askG d nx V.l.length 0 V s).1)) w') : Calls Tryz.prog 39 #[ptr b, .string d, .func (.func 43) #[] #[ptr c1, ptr c2]] wz Q := by
  have HQ := hid hq
  have HX := hid hX
  have HCL := hid hcl
  have HH := hid h
  have HL := hid hl
  have HNN := h.wt.n
  have HC := hid hc
  have HF := hid hf
  clear hq hX hcl h hl hc hf
  unfold ptr at *
  generalize hnn : V.l.length = n at *
  have HN := hid hnn
  clear hnn
  go_enter Tryz.func39, Tryz.ntmps39
  go_wp2_with fail
  refine HNN.mono ?_
  clear HNN
  rintro x w1 ⟨rfl, rfl⟩
  go_wp2_with fail
  go_loopg [7, 8, 9, 10, 13] n (fun gk s7 s8 s9 s10 s13 wx => ∃ (k : Nat) (V1 : Wd) (T1 : Nat → Prop) (s1 : σ), k + gk = n ∧ s13 = .int .i64 (k : Int) ∧ Hid (Bes w0 w wx b V1 T0 T1 (X k) s1 ∧ V1.l.length = n ∧ V1.calls ≤ V.calls + k ∧ V1.left < 9223372036854775808 ∧ askG d nx gk k V1 s1 = askG d nx n 0 V s))
  case atStart => exact ⟨0, V, T, s, by omega, rfl, hid ⟨HH.out, HN.out, Nat.le_refl _, HF.out, rfl⟩⟩
  case round =>
    obtain ⟨k, V1, T1, s1, hk, rfl, HJ⟩ := hrel
    cases gk with
    | zero =>
      have q1 : ¬ ((k : Int) < (n : Int)) := by omega
      have he := HJ.out.2.2.2.2
      have HE := hid (show Q (.returned (er 0)) wr from by
        have := HQ.out wr T1 k (by omega)
        rw [← he] at this
        exact this HJ.out.1)
      unfold er at HE
      clear he
      go_wp2_with fail
      exact HE.out
    | succ g1 =>
      have q1 : (k : Int) < (n : Int) := by omega
      have hkn : k < n := by omega
      have HNM : Calls Tryz.prog 47 #[.string d, .int .i64 (k : Int)] wr fun e w' => e = .returned (.string (nmS d k)) ∧ Below wr.heap.size wr w' := H.name_any d (k : Int) (by omega) (by omega) (by omega) wr (HJ.out.1.wt.lay HL.out)
      have HKK := hid hk
      clear hk
      go_wp2_with fail
      refine HNM.mono ?_
      clear HNM
      rintro x w2 ⟨rfl, hb2⟩
      have hj2 := HJ.out.1.below (HX.out k) hb2
      have hc1 := HJ.out.2.2.1
      have hc0 := HC.out
      have HGT := hj2.wt.get (by omega) HJ.out.2.2.2.1 (k : Int) (nmS d k) (nmS_size d hd k (by omega))
      have HB2 := hid hj2
      have he := HJ.out.2.2.2.2
      rw [askG_succ] at he
      have HE := hid he
      have hsm := askW_small V1 (k : Int)
      have hlf := HJ.out.2.2.2.1
      have HSM : Hid ((askW V1 (k : Int)).l.length = n ∧ (askW V1 (k : Int)).calls ≤ V.calls + (k + 1) ∧ (askW V1 (k : Int)).left < 9223372036854775808) := hid ⟨by rw [hsm.2.2]; exact HJ.out.2.1, by omega, by omega⟩
      unfold er ptr at HGT
      clear hj2 hb2 he hsm hlf hc1 hc0
      generalize getW V1 (k : Int) (nmS d k) = gg at *
      generalize askW V1 (k : Int) = V2 at *
      go_wp2_with fail
      refine HGT.mono ?_
      clear HGT
      rintro x w3 ⟨rfl, hw3⟩
      have HB3 := hid (HB2.out.call (HX.out k) hw3)
      clear hw3 HB2 HJ
      obtain ⟨dt, z⟩ := gg
      simp only at HE
      by_cases hz : z = 56
      · subst hz
        rw [if_pos rfl] at HE
        have HR := hid (show Q (.returned (er 56)) w3 from by
          have := HQ.out w3 T1 k (by omega)
          rw [← HE.out] at this
          exact this HB3.out)
        unfold er at HR
        go_wp2_with fail
        exact HR.out
      · have q2 : (z == 56) = false := by simpa using hz
        rw [if_neg hz] at HE
        have HC3 := HCL.out w3 V2 T1 s1 k dt z
        unfold obv at HC3
        clear hz
        go_wp2_with fail
        refine HC3 _ hkn HB3.out fun w4 T4 hb4 => ?_
        clear HC3
        have HB4 := hid hb4
        clear hb4 HB3
        cases hnx : (nx s1 k dt z).1 with
        | true =>
          rw [hnx, if_pos rfl] at HE
          clear hnx
          go_wp2_with fail
          go_roundg g1
          case measure => omega
          case rel => exact ⟨k + 1, V2, T4, _, by have := HKK.out; omega, by first | rfl | simp, hid ⟨HB4.out, HSM.out.1, HSM.out.2.1, HSM.out.2.2, HE.out⟩⟩
        | false =>
          rw [hnx, if_neg (by decide)] at HE
          clear hnx
          have HR := hid (show Q (.returned (er 0)) w4 from by
            have := HQ.out w4 T4 (k + 1) (by omega)
            rw [← HE.out] at this
            exact this HB4.out)
          unfold er at HR
          go_wp2_with fail
          exact HR.out
set_option maxHeartbeats 4000000 in
set_option maxRecDepth 20000 in
theorem ask130_any (d : ByteArray) (hd : d.size ≤ 1000) (c1 c2 : Nat) (nx : σ → Nat → ByteArray → Int → Bool × σ) (X : Nat → World → (Nat → Prop) → σ → Prop) (hX : ∀ k w w' T s, X k w T s → Kpt T w w' → X k w' T s) {s : σ}
    (hcl : ∀ (w1 : World) (V1 : Wd) (T1 : Nat → Prop) (s1 : σ) (i : Nat) (x : ByteArray) (e : Int) (Q : Ending → World → Prop), i < V.l.length → Bes w0 w w1 b V1 T0 T1 (X i) s1 → (∀ w2 T2, Bes w0 w w2 b V1 T0 T2 (X (i + 1)) (nx s1 i x e).2 → Q (.returned (.bool (nx s1 i x e).1)) w2) → Calls Tryz.prog 130 #[.int .i64 (i : Int), obv (nmS d i) x, .int .i64 e, ptr c1, ptr c2] w1 Q)
    {wz : World} (h : Bes w0 w wz b V T0 T (X 0) s) (hl : H.Lay w0) (hn : V.l.length ≤ 12) (hc : V.calls ≤ 900000) (hf : V.left < 9223372036854775808) (Q : Ending → World → Prop)
    (hq : ∀ w' T' k, k ≤ V.l.length → Bes w0 w w' b (askG d nx V.l.length 0 V s).2.1 T0 T' (X k) (askG d nx V.l.length 0 V s).2.2 → Q (.returned (er (askG d nx V.l.length 0 V s).1)) w') : Calls Tryz.prog 39 #[ptr b, .string d, .func (.func 130) #[] #[ptr c1, ptr c2]] wz Q := by
  have HQ := hid hq
  have HX := hid hX
  have HCL := hid hcl
  have HH := hid h
  have HL := hid hl
  have HNN := h.wt.n
  have HC := hid hc
  have HF := hid hf
  clear hq hX hcl h hl hc hf
  unfold ptr at *
  generalize hnn : V.l.length = n at *
  have HN := hid hnn
  clear hnn
  go_enter Tryz.func39, Tryz.ntmps39
  go_wp2_with fail
  refine HNN.mono ?_
  clear HNN
  rintro x w1 ⟨rfl, rfl⟩
  go_wp2_with fail
  go_loopg [7, 8, 9, 10, 13] n (fun gk s7 s8 s9 s10 s13 wx => ∃ (k : Nat) (V1 : Wd) (T1 : Nat → Prop) (s1 : σ), k + gk = n ∧ s13 = .int .i64 (k : Int) ∧ Hid (Bes w0 w wx b V1 T0 T1 (X k) s1 ∧ V1.l.length = n ∧ V1.calls ≤ V.calls + k ∧ V1.left < 9223372036854775808 ∧ askG d nx gk k V1 s1 = askG d nx n 0 V s))
  case atStart => exact ⟨0, V, T, s, by omega, rfl, hid ⟨HH.out, HN.out, Nat.le_refl _, HF.out, rfl⟩⟩
  case round =>
    obtain ⟨k, V1, T1, s1, hk, rfl, HJ⟩ := hrel
    cases gk with
    | zero =>
      have q1 : ¬ ((k : Int) < (n : Int)) := by omega
      have he := HJ.out.2.2.2.2
      have HE := hid (show Q (.returned (er 0)) wr from by
        have := HQ.out wr T1 k (by omega)
        rw [← he] at this
        exact this HJ.out.1)
      unfold er at HE
      clear he
      go_wp2_with fail
      exact HE.out
    | succ g1 =>
      have q1 : (k : Int) < (n : Int) := by omega
      have hkn : k < n := by omega
      have HNM : Calls Tryz.prog 47 #[.string d, .int .i64 (k : Int)] wr fun e w' => e = .returned (.string (nmS d k)) ∧ Below wr.heap.size wr w' := H.name_any d (k : Int) (by omega) (by omega) (by omega) wr (HJ.out.1.wt.lay HL.out)
      have HKK := hid hk
      clear hk
      go_wp2_with fail
      refine HNM.mono ?_
      clear HNM
      rintro x w2 ⟨rfl, hb2⟩
      have hj2 := HJ.out.1.below (HX.out k) hb2
      have hc1 := HJ.out.2.2.1
      have hc0 := HC.out
      have HGT := hj2.wt.get (by omega) HJ.out.2.2.2.1 (k : Int) (nmS d k) (nmS_size d hd k (by omega))
      have HB2 := hid hj2
      have he := HJ.out.2.2.2.2
      rw [askG_succ] at he
      have HE := hid he
      have hsm := askW_small V1 (k : Int)
      have hlf := HJ.out.2.2.2.1
      have HSM : Hid ((askW V1 (k : Int)).l.length = n ∧ (askW V1 (k : Int)).calls ≤ V.calls + (k + 1) ∧ (askW V1 (k : Int)).left < 9223372036854775808) := hid ⟨by rw [hsm.2.2]; exact HJ.out.2.1, by omega, by omega⟩
      unfold er ptr at HGT
      clear hj2 hb2 he hsm hlf hc1 hc0
      generalize getW V1 (k : Int) (nmS d k) = gg at *
      generalize askW V1 (k : Int) = V2 at *
      go_wp2_with fail
      refine HGT.mono ?_
      clear HGT
      rintro x w3 ⟨rfl, hw3⟩
      have HB3 := hid (HB2.out.call (HX.out k) hw3)
      clear hw3 HB2 HJ
      obtain ⟨dt, z⟩ := gg
      simp only at HE
      by_cases hz : z = 56
      · subst hz
        rw [if_pos rfl] at HE
        have HR := hid (show Q (.returned (er 56)) w3 from by
          have := HQ.out w3 T1 k (by omega)
          rw [← HE.out] at this
          exact this HB3.out)
        unfold er at HR
        go_wp2_with fail
        exact HR.out
      · have q2 : (z == 56) = false := by simpa using hz
        rw [if_neg hz] at HE
        have HC3 := HCL.out w3 V2 T1 s1 k dt z
        unfold obv at HC3
        clear hz
        go_wp2_with fail
        refine HC3 _ hkn HB3.out fun w4 T4 hb4 => ?_
        clear HC3
        have HB4 := hid hb4
        clear hb4 HB3
        cases hnx : (nx s1 k dt z).1 with
        | true =>
          rw [hnx, if_pos rfl] at HE
          clear hnx
          go_wp2_with fail
          go_roundg g1
          case measure => omega
          case rel => exact ⟨k + 1, V2, T4, _, by have := HKK.out; omega, by first | rfl | simp, hid ⟨HB4.out, HSM.out.1, HSM.out.2.1, HSM.out.2.2, HE.out⟩⟩
        | false =>
          rw [hnx, if_neg (by decide)] at HE
          clear hnx
          have HR := hid (show Q (.returned (er 0)) w4 from by
            have := HQ.out w4 T4 (k + 1) (by omega)
            rw [← HE.out] at this
            exact this HB4.out)
          unfold er at HR
          go_wp2_with fail
          exact HR.out
end Go.Proofs.YtffhobkoagnhhaaGreatDoor
