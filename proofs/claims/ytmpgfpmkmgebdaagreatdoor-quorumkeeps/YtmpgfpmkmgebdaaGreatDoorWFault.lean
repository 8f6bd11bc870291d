/- The contracts of Put and Del. -/
import Derived.Test.YtmpgfpmkmgebdaaGreatDoorWTry
import Derived.Laws.MakeOwn
import Derived.Laws.BytesString
import Derived.Lib.ConvBytes
import Derived.Laws.NewFold
namespace Go.Proofs.YtmpgfpmkmgebdaaGreatDoor.W
open Go.RowKit Go.Maps
/-- what is said of a store's sizes: so that its numbers are numbers -/
structure Fit (N : Nat) (s : St) : Prop where
  seen : s.seen.length ≤ N
  writes : s.writes.length ≤ N
  names : ∀ p ∈ s.seen, p.1.size ≤ 80
  datas : ∀ p ∈ s.seen, p.2.size ≤ 65536
  wnames : ∀ q ∈ s.writes, q.name.size ≤ 80
  was : ∀ q ∈ s.writes, (q.was.getD ⟨#[]⟩).size ≤ 65536
  now : ∀ q ∈ s.writes, (q.now.getD ⟨#[]⟩).size ≤ 65536
  refuse : ∀ k, s.refuse = some k → k < 9223372036854775808
  room : ∀ k, s.room = some k → k < 9223372036854775808
def badName (n d : ByteArray) : Bool := decide (n.size = 0) || (decide (80 < n.size) || decide (65536 < d.size))
def putS (s : St) (n d : ByteArray) : Int × St := if badName n d then (1, s) else if s.down then (51, s) else if over s n d then (52, s) else tried s n (some d)
def obv (n d : ByteArray) : Value := .agg #[.string n, .string d]
set_option maxHeartbeats 1000000 in
set_option maxRecDepth 20000 in
theorem put_bad (v : Value) (hv : ∃ b, v = ptr b) (n d : ByteArray) (h : badName n d = true) (w : World) : Calls Tryz.prog 99 #[v, obv n d] w fun e w' => e = .returned (er 1) ∧ Below w.heap.size w w' := by
  have HF := hid (boxed w (.cells #[.string n, .string d] 131))
  obtain ⟨b, rfl⟩ := hv
  unfold badName at h
  unfold ptr obv er
  by_cases h0 : n.size = 0
  · have q0 : ((n.size : Int) == 0) = true := beq_iff_eq.2 (by omega)
    clear h
    go_enter Tryz.func99, Tryz.ntmps99
    go_wp2_with fail
    go_ret
    exact ⟨rfl, HF.out⟩
  · have q0 : ((n.size : Int) == 0) = false := beq_eq_false_iff_ne.2 (by omega)
    by_cases h1 : 80 < n.size
    · have q1 : (80 : Int) < (n.size : Int) := by omega
      clear h h0
      go_enter Tryz.func99, Tryz.ntmps99
      go_wp2_with fail
      go_ret
      exact ⟨rfl, HF.out⟩
    · have q1 : ¬ (80 : Int) < (n.size : Int) := by omega
      have h2 : 65536 < d.size := by
        rw [decide_eq_false h0, decide_eq_false h1] at h
        simpa using h
      have q2 : (65536 : Int) < (d.size : Int) := by omega
      clear h h0 h1
      go_enter Tryz.func99, Tryz.ntmps99
      go_wp2_with fail
      go_ret
      exact ⟨rfl, HF.out⟩
set_option maxHeartbeats 1000000 in
set_option maxRecDepth 20000 in
theorem put_any {w : World} {S : Nat → Prop} {b : Nat} {s : St} (h : IsSt w S b s) {N : Nat} (hF : Fit N s) (hN : N ≤ 1000000) (n d : ByteArray) : Calls Tryz.prog 99 #[ptr b, obv n d] w fun e w' => e = .returned (er (putS s n d).1) ∧ After w w' S b (putS s n d).2 := by
  unfold putS
  cases hbad : badName n d with
  | true => exact (put_bad _ ⟨b, rfl⟩ n d hbad w).mono fun e w' ⟨h1, h2⟩ => ⟨h1, After.of_below h h2⟩
  | false =>
    simp only [Bool.false_eq_true, if_false]
    unfold badName at hbad
    simp only [Bool.or_eq_false_iff, decide_eq_false_iff_not] at hbad
    obtain ⟨h0, h1, h2⟩ := hbad
    have q0 : ((n.size : Int) == 0) = false := beq_eq_false_iff_ne.2 (by omega)
    have q1 : ¬ (80 : Int) < (n.size : Int) := by omega
    have q2 : ¬ (65536 : Int) < (d.size : Int) := by omega
    have hnl : n.size ≤ maxLen := by unfold maxLen; omega
    have hbox : Has (w.alloc (.cells #[.string n, .string d] 131)) w.heap.size #[.string n, .string d] 131 := Has.new _ _ _ _ rfl
    have HB := hid (boxed w (.cells #[.string n, .string d] 131))
    have h' := h.below HB.out
    obtain ⟨mo, wv, ⟨c0, c1, c2, c3, c4, c5, c6⟩, _, _, _⟩ := h'.cells
    have hO := over_any h' (Nat.le_trans hF.seen hN) hF.datas n d hnl (by omega)
    have hT : Hid (∀ W, Below (w.alloc (.cells #[.string n, .string d] 131)).heap.size (w.alloc (.cells #[.string n, .string d] 131)) W → Calls Tryz.prog 117 #[ptr b, .string n, cv (some d)] W fun e w' => e = .returned (er (tried s n (some d)).1) ∧ After W w' S b (tried s n (some d)).2) := hid fun W hW =>
      try_any (h'.below hW) hF.refuse (Nat.le_trans hF.seen hN) (Nat.le_trans hF.writes hN) n (some d) (by omega) (by show d.size ≤ _; omega)
    have HI := hid h
    have HX := hid hbox
    clear h h' hF hN hnl h0 h1 h2 hbox c0 c1 c3 c4 c5 c6
    unfold ptr at hT hO ⊢
    unfold obv er at *
    cases hd : s.down with
    | true =>
      rw [hd] at c2
      clear hT hO
      go_enter Tryz.func99, Tryz.ntmps99
      go_wp2_with fail
      go_ret
      exact ⟨rfl, After.of_below HI.out HB.out⟩
    | false =>
      rw [hd] at c2
      have HD := hid hd
      clear hd
      cases ho : over s n d with
      | true =>
        rw [ho] at hO
        clear hT ho
        go_enter Tryz.func99, Tryz.ntmps99
        go_wp2_with fail
        refine hO.mono ?_
        rintro e w1 ⟨rfl, hb⟩
        have HB1 := hid (HB.out.trans (hb.mono (by simp)))
        clear hO hb
        go_wp2_with fail
        go_ret
        exact ⟨rfl, After.of_below HI.out HB1.out⟩
      | false =>
        rw [ho] at hO
        have HOv := hid ho
        clear ho
        go_enter Tryz.func99, Tryz.ntmps99
        go_wp2_with fail
        refine hO.mono ?_
        rintro e w1 ⟨rfl, hb⟩
        have hx1 := HX.out.below hb HX.out.lt
        have k0 := hx1.cell 0
        have k1 := hx1.cell 1
        have HT := hT.out w1 hb
        have HB1 := hid (HB.out.trans (hb.mono (by simp)))
        clear hO hb hx1 hT
        rw [cv_some] at HT
        go_wp2_with fail
        refine HT.mono ?_
        rintro e w2 ⟨rfl, hA⟩
        have HA := hid (hA.front HB1.out)
        clear HT hA
        go_wp2_with fail
        go_ret
        exact ⟨rfl, HA.out⟩
end Go.Proofs.YtmpgfpmkmgebdaaGreatDoor.W
/- Strings as rows of bytes. -/
namespace Go.Proofs.YtmpgfpmkmgebdaaGreatDoor.W
open Go.RowKit Go.Maps
def U8s (b : List Nat) : Array Value := (b.map fun x : Nat => Value.int .u8 (x : Int)).toArray
theorem U8s_size (b : List Nat) : (U8s b).size = b.length := by simp [U8s]
theorem U8s_get (b : List Nat) (i : Nat) (h : i < b.length) : (U8s b)[i]? = some (.int .u8 ((b.getD i 0 : Nat) : Int)) := by
  simp [U8s, List.getD_eq_getElem?_getD, List.getElem?_eq_getElem h]
def bs (s : ByteArray) : List Nat := s.data.toList.map (·.toNat)
theorem bs_length (s : ByteArray) : (bs s).length = s.size := by simp [bs]
def ofBs (l : List Nat) : ByteArray := ⟨(l.map fun x => x.toUInt8).toArray⟩
theorem fold_push (l : List Nat) (acc : ByteArray) : (l.map fun x : Nat => (x : Int)).foldl (fun r n => r.push (UInt8.ofNat n.toNat)) acc = ⟨acc.data ++ (l.map fun x => x.toUInt8).toArray⟩ := by
  induction l generalizing acc with
  | nil => simp
  | cons x l ih =>
    simp only [List.map_cons, List.foldl_cons, ih, Int.toNat_natCast]
    have : (acc.push (UInt8.ofNat x)).data = acc.data.push (UInt8.ofNat x) := rfl
    rw [this]
    congr 1
    apply Array.toList_inj.1
    simp
def BRow (W : World) (g : Nat) (l : List Nat) : Prop := ∃ cs t fr, W.heap[g]? = some (.cells cs t fr) ∧ (∀ j, j < l.length → cs[j]? = some (.int .u8 ((l.getD j 0 : Nat) : Int))) ∧ l.length ≤ fr.1
theorem BRow.cell {W : World} {g : Nat} {l : List Nat} (h : BRow W g l) (j : Nat) (hj : j < l.length) : W.cell? ⟨g, j, none⟩ = some (.int .u8 ((l.getD j 0 : Nat) : Int)) := by
  obtain ⟨cs, t, fr, h, hc, _⟩ := h
  simp [World.cell?, h, hc j hj]
theorem BRow.frozen {W : World} {g : Nat} {l : List Nat} (h : BRow W g l) (j : Nat) (hj : j < l.length) : W.frozen? ⟨g, j, none⟩ = false := by
  obtain ⟨cs, t, fr, h, _, hf⟩ := h
  simp [World.frozen?, h]
  omega
theorem BRow.set {W : World} {g : Nat} {l : List Nat} (h : BRow W g l) (k y : Nat) (z : Int) (hz : z = (y : Int)) (hk : k < l.length) : BRow (W.setCell ⟨g, k, none⟩ (.int .u8 z)) g (l.set k y) := by
  subst hz
  obtain ⟨cs, t, fr, h, hc, hf⟩ := h
  refine ⟨cs.setIfInBounds k (.int .u8 (y : Int)), t, fr, ?_, fun j hj => ?_, by simpa using hf⟩
  · simp [World.setCell, Array.getElem?_modify, h]
  · rw [List.length_set] at hj
    have hcs := hc j hj
    have hsz : j < cs.size := (Array.getElem?_eq_some_iff.1 hcs).1
    rw [List.getD_eq_getElem?_getD, List.getElem?_set]
    by_cases hkj : k = j
    · subst hkj
      rw [if_pos rfl, if_pos hk]
      simp [hsz]
    · rw [if_neg hkj, ← List.getD_eq_getElem?_getD, Array.getElem?_setIfInBounds_ne hkj]
      exact hcs
theorem brow_new (w : World) (s : ByteArray) : BRow (Lib.bytesWorld w 5 s) w.heap.size (bs s) := by
  refine ⟨_, _, _, Lib.bytesWorld_at_new w 5 s, fun j hj => ?_, ?_⟩
  · rw [bs_length] at hj
    have h := Lib.bytesWorld_cell w 5 s j hj
    rw [World.cell?, Lib.bytesWorld_at_new] at h
    have h' : (Lib.bytesCells w 5 s)[j]? = some (Value.int .u8 ((s.data.toList.getD j 0).toNat : Int)) := h
    rw [h']
    congr 3
    simp [bs, List.getD_eq_getElem?_getD, hj]
  · have hge := grownCap_ge w s.size 0 5
    rw [bs_length]
    simp [Lib.bytesCells]
theorem BRow.conv {W : World} {g : Nat} {l : List Nat} (h : BRow W g l) (n c : Nat) (hn : n ≤ l.length) : (convert 141 9 (.slice (some ⟨g, 0, none⟩) n c)).run Tryz.prog W = .ok (.string (ofBs (l.take n))) W := by
  rw [run_convert_bytes_string W 141 9 5 _ _ _ Tryz.underlying141 Tryz.underlying5 Tryz.underlying9]
  have hl : (loadCells ⟨g, 0, none⟩ n).run Tryz.prog W = .ok (((l.take n).map fun x : Nat => (x : Int)).map (Value.int .u8)).toArray W := by
    have h2 := run_loadCells_list (P := Tryz.prog) W ⟨g, 0, none⟩ (U8s (l.take n)).toList (fun j v hv => by
      have hj : j < (l.take n).length := by
        have := (List.getElem?_eq_some_iff.1 hv).1
        simpa [U8s] using this
      have hj' : j < l.length := by rw [List.length_take] at hj; omega
      rw [Addr.add_mid, Nat.zero_add, h.cell j hj', ← hv]
      have := U8s_get (l.take n) j hj
      rw [Array.getElem?_toList, this]
      congr 3
      rw [List.getD_eq_getElem?_getD, List.getD_eq_getElem?_getD, List.getElem?_take_of_lt (by rw [List.length_take] at hj; omega)])
    rw [Array.length_toList, U8s_size, List.length_take, Nat.min_eq_left hn] at h2
    rw [h2]
    simp [U8s]
    rfl
  rw [run_bytesToString W _ _ _ _ hl, fold_push]
  simp [ofBs]
theorem bytes_told (w : World) (s : ByteArray) : ∃ W cap, (convert 9 141 (.string s)).run Tryz.prog w = .ok (.slice (some ⟨w.heap.size, 0, none⟩) s.size cap) W ∧ BRow W w.heap.size (bs s) ∧ Below w.heap.size w W ∧ s.size ≤ cap :=
  ⟨_, _, Lib.run_convert_string_bytes (P := Tryz.prog) w 9 141 5 s Tryz.underlying9 Tryz.underlying141 Tryz.underlying5, brow_new w s, ⟨rfl, rfl, rfl, by rw [Lib.bytesWorld_size]; omega, fun k hk => Lib.bytesWorld_at_old w 5 s k hk⟩, by have := grownCap_ge w s.size 0 5; omega⟩
end Go.Proofs.YtmpgfpmkmgebdaaGreatDoor.W
/- The contracts of what faults do. -/
namespace Go.Proofs.YtmpgfpmkmgebdaaGreatDoor.W
open Go.RowKit Go.Maps
/-- the object that a fault is of -/
def stk (M : List Ob) (n : Nat) : Option Ob := M[n % M.length]?
def stkN (M : List Ob) (n : Nat) : ByteArray := ((stk M n).map (·.1)).getD ⟨#[]⟩
theorem stk_none {M : List Ob} {n : Nat} (h : M.length = 0) : stk M n = none := by
  rw [List.eq_nil_of_length_eq_zero h]; rfl
theorem stk_some {M : List Ob} {n : Nat} (h : M.length ≠ 0) : ∃ p, stk M n = some p ∧ M[n % M.length]? = some p :=
  ⟨_, List.getElem?_eq_getElem (Nat.mod_lt _ (by omega)), List.getElem?_eq_getElem (Nat.mod_lt _ (by omega))⟩
set_option maxHeartbeats 1000000 in
set_option maxRecDepth 20000 in
theorem struck_any {w : World} {S : Nat → Prop} {b : Nat} {s : St} (h : IsSt w S b s) (hs : s.seen.length ≤ 1000000) (k t : Int) (n : Nat) (a c : Int) (hn : n < 9223372036854775808) : Calls Tryz.prog 111 #[ptr b, fv k t n a c] w fun e w' => e = .returned (.tuple #[.string (stkN s.seen n), .bool (stk s.seen n).isSome]) ∧ Below w.heap.size w w' := by
  have HB := hid (boxed w (.cells #[.int .u8 k, .int .i64 t, .int .i64 (n : Int), .int .i64 a, .int .i64 c] 43))
  have hbox : Has (w.alloc (.cells #[.int .u8 k, .int .i64 t, .int .i64 (n : Int), .int .i64 a, .int .i64 c] 43)) w.heap.size #[.int .u8 k, .int .i64 t, .int .i64 (n : Int), .int .i64 a, .int .i64 c] 43 := Has.new _ _ _ _ rfl
  have hN := names_any (h.below HB.out) hs
  have HX := hid hbox
  clear h hbox
  unfold ptr fv at *
  unfold stkN
  generalize s.seen = M at *
  go_enter Tryz.func111, Tryz.ntmps111
  go_wp2_with fail
  refine hN.mono ?_
  rintro e w1 ⟨nv, rfl, hr, hb⟩
  have hx1 := HX.out.below hb HX.out.lt
  have k2 := hx1.cell 2
  have HB1 := hid (HB.out.trans (hb.mono (by simp)))
  have form := row_form hr
  clear hN hr hb hx1 HX HB
  by_cases h0 : M.length = 0
  · have E := hid (stk_none (n := n) h0)
    rcases form with ⟨rfl, _, _⟩ | ⟨g, cap, rfl, _⟩
    · go_wp2_with fail
      go_ret2
      rw [E.out]
      exact ⟨rfl, HB1.out⟩
    · rw [h0]
      go_wp2_with fail
      go_ret2
      rw [E.out]
      exact ⟨rfl, HB1.out⟩
  · obtain ⟨p, hp1, hp2⟩ := stk_some (n := n) h0
    rcases form with ⟨_, e0, _⟩ | ⟨g, cap, rfl, hg, _, hcap, _, hc⟩
    · exact absurd e0 h0
    · have cn : w1.cell? ⟨g, n % M.length, none⟩ = some (.string p.1) := hc _ _ (nameCells_get M _ p hp2)
      have hlt : n % M.length < M.length := Nat.mod_lt _ (by omega)
      have E := hid hp1
      have q0 : ((M.length : Int) == 0) = false := beq_eq_false_iff_ne.2 (by omega)
      have q1 : (n : Int).tmod (M.length : Int) = ((n % M.length : Nat) : Int) := by
        rw [Int.tmod_eq_emod_of_nonneg (by omega)]; rfl
      clear hp1 hp2 hc
      generalize n % M.length = r at *
      generalize hml : M.length = L at *
      go_wp2_with fail
      go_ret2
      rw [E.out]
      exact ⟨rfl, HB1.out⟩
theorem IsSt.bound {w : World} {S : Nat → Prop} {b : Nat} {s : St} (h : IsSt w S b s) : ∀ i, S i → i < w.heap.size := by
  obtain ⟨_, _, _, _, _, _, _, _, h7, _⟩ := h; exact h7
theorem After.box {w w1 : World} {S : Nat → Prop} {b : Nat} {s : St} {cs : Array Value} {t : TypeId} (hA : After (w.alloc (.cells cs t)) w1 S b s) (h7 : ∀ i, S i → i < w.heap.size) : Has w1 w.heap.size cs t := by
  obtain ⟨_, _, _, hO⟩ := hA
  exact hO.has (Has.new _ _ _ _ rfl) fun h => by have := h7 _ h; omega
def loseS (s : St) (n : Nat) : St := { s with writes := [], seen := match stk s.seen n with | none => s.seen | some p => drop p.1 s.seen }
/-- a byte of it is another one -/
def bent (d : ByteArray) (a y : Nat) : ByteArray := ofBs ((bs d).set (a % d.size) y)
def bendS (s : St) (n a y : Nat) : St := match stk s.seen n with
  | none => { s with writes := [] }
  | some p => if p.2.size = 0 then { s with writes := [] } else { s with writes := [], seen := put (p.1, bent p.2 a y) s.seen, live := true }
theorem stk_mem {M : List Ob} {n : Nat} {p : Ob} (h : stk M n = some p) : p ∈ M := List.mem_of_getElem? h
theorem five_cells {W : World} {b : Nat} {u v x y z : Value} {t : TypeId} (h : Has W b #[u, v, x, y, z] t) : W.cell? ⟨b, 0, none⟩ = some u ∧ W.cell? ⟨b, 1, none⟩ = some v ∧ W.cell? ⟨b, 2, none⟩ = some x ∧ W.cell? ⟨b, 3, none⟩ = some y ∧ W.cell? ⟨b, 4, none⟩ = some z :=
  ⟨h.cell 0, h.cell 1, h.cell 2, h.cell 3, h.cell 4⟩
set_option maxHeartbeats 1000000 in
set_option maxRecDepth 20000 in
theorem lose_any {w : World} {S : Nat → Prop} {b : Nat} {s : St} (h : IsSt w S b s) (hs : s.seen.length ≤ 1000000) (hnm : ∀ p ∈ s.seen, p.1.size ≤ 80) (k t : Int) (n : Nat) (a c : Int) (hn : n < 9223372036854775808) : Calls Tryz.prog 88 #[ptr b, fv k t n a c] w fun e w' => e = .returned (.tuple #[]) ∧ After w w' S b (loseS s n) := by
  have HB := hid (boxed w (.cells #[.int .u8 k, .int .i64 t, .int .i64 (n : Int), .int .i64 a, .int .i64 c] 43))
  have hS := settle_any (h.below HB.out)
  have h7 := hid h.bound
  clear h
  unfold ptr at hS ⊢
  unfold fv
  go_enter Tryz.func88, Tryz.ntmps88
  go_wp2_with fail
  refine hS.mono ?_
  rintro e w1 ⟨rfl, hA1⟩
  have hx1 := hA1.box h7.out
  obtain ⟨x0, x1, x2, x3, x4⟩ := five_cells hx1
  have HA0 := hid (hA1.front HB.out)
  clear hS hA1 hx1 HB
  obtain ⟨S1, g1, g2, g3⟩ := HA0.out
  have hT := struck_any g1 hs k t n a c hn
  unfold ptr fv stkN at hT
  cases hk : stk s.seen n with
  | none =>
    simp only [hk, Option.isSome_none, Option.map_none, Option.getD_none] at hT
    have HE := hid (show loseS s n = { s with writes := [] } from by unfold loseS; rw [hk])
    clear hk
    go_wp2_with fail
    refine hT.mono ?_
    rintro e w2 ⟨rfl, hb⟩
    have HA2 := hid (HA0.out.next hb)
    clear hT hb g1 g2 g3 x0 x1 x2 x3 x4 HA0
    go_wp2_with fail
    go_end0
    rw [HE.out]
    exact ⟨rfl, HA2.out⟩
  | some q =>
    have hqm := stk_mem hk
    have HE := hid (show loseS s n = { s with writes := [], seen := drop q.1 s.seen } from by unfold loseS; rw [hk])
    simp only [hk, Option.isSome_some, Option.map_some, Option.getD_some] at hT
    have hq : q.1.size ≤ maxLen := by have := hnm q hqm; unfold maxLen; omega
    clear hk
    go_wp2_with fail
    refine hT.mono ?_
    rintro e w2 ⟨rfl, hb⟩
    have g4 := hid (g1.below hb)
    have G := hid (show Only S w w2 from g3.next hb)
    have G2 := hid g2
    clear hT hb g1 g2 g3 x0 x1 x2 x3 x4 HA0
    obtain ⟨mo, wv, h1, h2, h3, h4, h5, h6, h7', h8⟩ := g4.out
    obtain ⟨c0, c1, c2, c3, c4, c5, c6⟩ := scells_cell h1
    obtain ⟨w3, hrun, r1, r2⟩ := h2.del hq 0
    have hA := hid (After.trans (S := S) (S1 := S1) G2.out G.out (After.grown h1 h3 h4 h5 h6 h7' h8 h2 _ r1 r2))
    clear h1 h2 h3 h4 h5 h6 h7' r1 r2 g4 G G2 h7 hnm hs
    go_wp2_with fail
    go_end0
    rw [HE.out]
    exact ⟨rfl, hA.out⟩
section
variable {ev : Operand → Value} {o : Oper} {w : World} {x y : Operand}
theorem rn_len68 {g n c : Nat} (ho : o.op = .call { callee := .builtin .len, args := #[x], argTypes := #[141] }) (hx : ev x = .slice (some ⟨g, 0, none⟩) n c) : (execOp ev o).run Tryz.prog w = .ok (.value (.int .i64 (n : Int))) w := by
  simp [execOp, ho, hx, go_sem]
theorem rn_rem3 {u v : Nat} (ho : o.op = .binOp .rem 3 x y 3) (hx : ev x = .int .i64 (u : Int)) (hy : ev y = .int .i64 (v : Int)) (hv : v ≠ 0 ∧ u < 9223372036854775808) : (execOp ev o).run Tryz.prog w = .ok (.value (.int .i64 ((u % v : Nat) : Int))) w := by
  have q1 : (u : Int).tmod (v : Int) = ((u % v : Nat) : Int) := by rw [Int.tmod_eq_emod_of_nonneg (by omega)]; rfl
  simp [execOp, ho, hx, hy, go_sem, q1, hv.1]
theorem rn_c35 {z : Int} (ho : o.op = .convert 3 5 x) (hx : ev x = .int .i64 z) (h : 0 ≤ z ∧ z < 256) : (execOp ev o).run Tryz.prog w = .ok (.value (.int .u8 z)) w := by
  have e : IntKind.u8.wrap z = z := by simp [IntKind.wrap, IntKind.bits, IntKind.signed]; omega
  simp [execOp, ho, hx, go_sem, e]
end
def bendF (B g n cap : Nat) (a y : Nat) (i : Nat) (v : Value) (_ : World) : Prop := match i with
  | 28 => v = .slice (some ⟨g, 0, none⟩) n cap | 31 => v = .slice (some ⟨g, 0, none⟩) n cap
  | 29 => v = .pointer (some ⟨B, 3, none⟩)
  | 30 => v = .int .i64 (a : Int)
  | 32 => v = .int .i64 (n : Int)
  | 33 => v = .int .i64 ((a % n : Nat) : Int)
  | 34 => v = .pointer (some ⟨B, 4, none⟩)
  | 35 => v = .int .i64 (y : Int)
  | 36 => v = .int .u8 (y : Int)
  | _ => True
set_option maxHeartbeats 4000000 in
set_option maxRecDepth 20000 in
theorem bend_any {w : World} {S : Nat → Prop} {b : Nat} {s : St} (h : IsSt w S b s) (hs : s.seen.length ≤ 1000000) (hnm : ∀ p ∈ s.seen, p.1.size ≤ 80) (hda : ∀ p ∈ s.seen, p.2.size ≤ 65536) (k t : Int) (n a y : Nat) (hn : n < 9223372036854775808) (ha : a < 9223372036854775808) (hy : y < 256) : Calls Tryz.prog 89 #[ptr b, fv k t n a y] w fun e w' => e = .returned (.tuple #[]) ∧ After w w' S b (bendS s n a y) := by
  have HB := hid (boxed w (.cells #[.int .u8 k, .int .i64 t, .int .i64 (n : Int), .int .i64 (a : Int), .int .i64 (y : Int)] 43))
  have hS := settle_any (h.below HB.out)
  have h7 := hid h.bound
  clear h
  unfold ptr at hS ⊢
  unfold fv
  go_enter Tryz.func89, Tryz.ntmps89
  go_wp2_with fail
  refine hS.mono ?_
  rintro e w1 ⟨rfl, hA1⟩
  have hx1 := hA1.box h7.out
  have HX := hid hx1
  obtain ⟨x0, x1, x2, x3, x4⟩ := five_cells hx1
  have HA0 := hid (hA1.front HB.out)
  clear hS hA1 hx1 HB
  obtain ⟨S1, g1, g2, g3⟩ := HA0.out
  have hT := struck_any g1 hs k t n a y hn
  unfold ptr fv stkN at hT
  cases hk : stk s.seen n with
  | none =>
    simp only [hk, Option.isSome_none, Option.map_none, Option.getD_none] at hT
    have HE := hid (show bendS s n a y = { s with writes := [] } from by unfold bendS; rw [hk])
    clear hk
    go_wp2_with fail
    refine hT.mono ?_
    rintro e w2 ⟨rfl, hb⟩
    have HA2 := hid (HA0.out.next hb)
    clear hT hb g1 g2 g3 x0 x1 x2 x3 x4 HA0
    go_wp2_with fail
    refine bodyPost_ret (results_none rfl _ _ _) rfl ?_
    rw [HE.out]
    exact ⟨rfl, HA2.out⟩
  | some q =>
    have hqm := stk_mem hk
    have HE0 := hid (show q.2.size = 0 → bendS s n a y = { s with writes := [] } from fun h0 => by unfold bendS; rw [hk]; simp only [h0, if_true])
    have HE1 := hid (show q.2.size ≠ 0 → bendS s n a y = { s with writes := [], seen := put (q.1, bent q.2 a y) s.seen, live := true } from fun h0 => by unfold bendS; rw [hk]; simp only [h0, if_false])
    simp only [hk, Option.isSome_some, Option.map_some, Option.getD_some] at hT
    have hq : q.1.size ≤ maxLen := by have := hnm q hqm; unfold maxLen; omega
    clear hk
    go_wp2_with fail
    refine hT.mono ?_
    rintro e w2 ⟨rfl, hb⟩
    have g4 := hid (g1.below hb)
    have G := hid (show Only S w w2 from g3.next hb)
    have G2 := hid g2
    have HX2 := hid (HX.out.below hb HX.out.lt)
    have HA2 := hid (HA0.out.next hb)
    clear hT hb g1 g2 g3 x0 x1 x2 x3 x4 HA0 HX
    obtain ⟨mo, wv, ⟨c0, c1, c2, c3, c4, c5, c6⟩, hM, _, _⟩ := g4.out.cells
    have hlk := hM.look hq false
    rw [(look_some hM.rising).2 (show (q.1, q.2) ∈ _ from hqm), cv_some] at hlk
    simp only [Bool.false_eq_true, if_false] at hlk
    have hfl := fun W => fld67 W true q.2
    obtain ⟨W2, cap, hcv, hbr, hbw, hcap⟩ := bytes_told w2 q.2
    have HBR := hid hbr
    have HBW := hid hbw
    have x3 : W2.cell? ⟨w.heap.size, 3, none⟩ = some (.int .i64 (a : Int)) := (HX2.out.below hbw HX2.out.lt).cell 3
    have x4 : W2.cell? ⟨w.heap.size, 4, none⟩ = some (.int .i64 (y : Int)) := (HX2.out.below hbw HX2.out.lt).cell 4
    have hdq := hda q hqm
    clear hM hbr hbw hqm hda hnm
    by_cases hd : q.2.size = 0
    · have q0 : ((q.2.size : Int) == 0) = true := beq_iff_eq.2 (by omega)
      have HD := hid hd
      clear hd
      go_wp2_with fail
      refine bodyPost_ret (results_none rfl _ _ _) rfl ?_
      rw [HE0.out HD.out]
      exact ⟨rfl, HA2.out.next HBW.out⟩
    · have q0 : ((q.2.size : Int) == 0) = false := beq_eq_false_iff_ne.2 (by omega)
      have HD := hid hd
      clear HA2
      go_wp2_with fail
      refine Tl.wp_mix_lit (by kernel_rfl) 9 [28, 29, 30, 31, 32, 33, 34, 35, 36] 44 rfl (by kernel_rfl) (AtW W2.drew) (bendF w.heap.size w2.heap.size q.2.size cap a y) rfl
        ⟨fun a' W' hC hF => ?_, fun a' W' hC hF => ?_, fun a' W' hC hF => ?_, fun a' W' hC hF => ?_, fun a' W' hC hF => ?_, fun a' W' hC hF => ?_, fun a' W' hC hF => ?_, fun a' W' hC hF => ?_, fun a' W' hC hF => ?_, trivial⟩ ?_
      · exact Tl.sm_v 28 _ rfl (Tl.wanted_none rfl) hC rfl (rn_move rfl ((hF 6 (by decide +kernel)).2 (by decide)))
      · exact Tl.sm_v 29 _ rfl (Tl.wanted_none rfl) hC rfl (rn_f32_3 rfl ((hF 3 (by decide +kernel)).2 (by decide)))
      · exact Tl.sm_v 30 _ rfl (Tl.wanted_none rfl) hC rfl (rn_load3 rfl ((hF 29 (by decide +kernel)).1 (by decide)) (by rw [show W' = _ from hC]; exact x3))
      · exact Tl.sm_v 31 _ rfl (Tl.wanted_none rfl) hC rfl (rn_move rfl ((hF 6 (by decide +kernel)).2 (by decide)))
      · exact Tl.sm_v 32 _ rfl (Tl.wanted_none rfl) hC rfl (rn_len68 rfl ((hF 31 (by decide +kernel)).1 (by decide)) )
      · exact Tl.sm_v 33 _ rfl (Tl.wanted_none rfl) hC rfl (rn_rem3 rfl ((hF 30 (by decide +kernel)).1 (by decide)) ((hF 32 (by decide +kernel)).1 (by decide)) ⟨hd, ha⟩)
      · exact Tl.sm_v 34 _ rfl (Tl.wanted_none rfl) hC rfl (rn_f32_4 rfl ((hF 3 (by decide +kernel)).2 (by decide)))
      · exact Tl.sm_v 35 _ rfl (Tl.wanted_none rfl) hC rfl (rn_load3 rfl ((hF 34 (by decide +kernel)).1 (by decide)) (by rw [show W' = _ from hC]; exact x4))
      · exact Tl.sm_v 36 _ rfl (Tl.wanted_none rfl) hC rfl (rn_c35 rfl ((hF 35 (by decide +kernel)).1 (by decide)) ⟨by omega, by omega⟩)
      intro v wB hw hv
      obtain rfl : wB = _ := hw
      have v28 : v 28 = .slice (some ⟨w2.heap.size, 0, none⟩) q.2.size cap := hv 28 (by decide)
      have v33 : v 33 = .int .i64 ((a % q.2.size : Nat) : Int) := hv 33 (by decide)
      have v36 : v 36 = .int .u8 (y : Int) := hv 36 (by decide)
      have hr : a % q.2.size < q.2.size := Nat.mod_lt _ (by omega)
      have hl0 : (bs q.2).length = q.2.size := bs_length _
      have f1 : W2.frozen? ⟨w2.heap.size, a % q.2.size, none⟩ = false := HBR.out.frozen _ (by omega)
      have f2 := HBR.out.cell (a % q.2.size) (by omega)
      have hb3 := HBR.out.set (a % q.2.size) y (y : Int) rfl (by omega)
      have hl3 : ((bs q.2).set (a % q.2.size) y).length = q.2.size := by simp [hl0]
      have hcv2 := BRow.conv (W := (W2.setCell ⟨w2.heap.size, a % q.2.size, none⟩ (.int .u8 (y : Int))).drew) hb3 q.2.size cap (by omega)
      rw [List.take_of_length_le (by omega)] at hcv2
      have HE := HE1.out hd
      unfold bent at HE
      have HEE := hid HE
      have I3 : IsSt (W2.setCell ⟨w2.heap.size, a % q.2.size, none⟩ (.int .u8 (y : Int))) S1 b { s with writes := [] } :=
        (g4.out.below HBW.out).only ((Only.refl (fun i => i = w2.heap.size) W2).set (p := ⟨w2.heap.size, a % q.2.size, none⟩) (.inl rfl) _) fun i hi e => by
          have := g4.out.bound i hi; omega
      have O3 : Hid (Only S w (W2.setCell ⟨w2.heap.size, a % q.2.size, none⟩ (.int .u8 (y : Int)))) := hid ((G.out.next HBW.out).set (.inr G.out.size) _)
      have hset := set_any I3.drew q.1 (some (ofBs ((bs q.2).set (a % q.2.size) y))) hq (by show s.seen.length < _; unfold maxLen; omega)
      rw [cv_some] at hset
      unfold ptr at hset
      clear hv HBR HBW hb3 I3 G g4 hl0 hl3 HE
      simp only [Tl.fill, List.drop_succ_cons, List.drop_zero]
      simp only [Act.put, List.setIfInBounds_toArray, List.set_cons_succ, List.set_cons_zero, v28, v33, v36]
      generalize a % q.2.size = r at *
      go_wp2_with fail
      refine hset.mono ?_
      rintro e w4 ⟨rfl, hA4⟩
      have HFin := hid (After.trans (S := S) G2.out O3.out.drew hA4)
      clear hset hA4 O3 G2
      go_wp2_with fail
      go_end0
      rw [HEE.out]
      have hF' := HFin.out
      simp only [Option.isSome_some, Bool.or_true] at hF'
      exact ⟨rfl, hF'⟩
end Go.Proofs.YtmpgfpmkmgebdaaGreatDoor.W
