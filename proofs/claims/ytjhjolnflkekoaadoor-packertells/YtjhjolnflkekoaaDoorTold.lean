/- The contracts of told and cloned. -/
import Derived.Test.YtjhjolnflkekoaaDoorMake
namespace Go.Proofs.YtjhjolnflkekoaaDoor
open Go.RowKit Go.Maps
open Pk
set_option linter.unusedVariables false
/-- the first n bytes, and what is behind them -/
def tk (s : ByteArray) (n : Nat) : ByteArray := s.extract 0 (min n s.size)
def dp (s : ByteArray) (n : Nat) : ByteArray := s.extract (min n s.size) s.size
theorem bs_tk (s : ByteArray) (n : Nat) : bs (tk s n) = (bs s).take n := by
  unfold tk
  rw [bs_extract, List.drop_zero, ← bs_length]
  by_cases h : n ≤ (bs s).length
  · rw [Nat.min_eq_left h]
  · rw [Nat.min_eq_right (by omega), List.take_length, List.take_of_length_le (by omega)]
theorem bs_dp (s : ByteArray) (n : Nat) : bs (dp s n) = (bs s).drop n := by
  unfold dp
  rw [bs_extract, ← bs_length, List.take_length]
  by_cases h : n ≤ (bs s).length
  · rw [Nat.min_eq_left h]
  · rw [Nat.min_eq_right (by omega), List.drop_length, List.drop_eq_nil_of_le (by omega)]
theorem tk_size (s : ByteArray) (n : Nat) : (tk s n).size = min n s.size := by rw [← bs_length, bs_tk, List.length_take, bs_length]
theorem dp_size (s : ByteArray) (n : Nat) : (dp s n).size = s.size - n := by rw [← bs_length, bs_dp, List.length_drop, bs_length]
/-- the chunks cut out of s, by their sizes -/
def cutS : Nat → ByteArray → ByteArray → List ByteArray
  | 0, _, _ => []
  | m + 1, z, s => tk s (numL (bs (tk z 2))) :: cutS m (dp z 2) (dp s (numL (bs (tk z 2))))
theorem cutS_len : ∀ (m : Nat) (z s : ByteArray), (cutS m z s).length = m
  | 0, _, _ => rfl
  | m + 1, z, s => by show (cutS m _ _).length + 1 = _; rw [cutS_len m]
theorem cutS_tot : ∀ (m : Nat) (z s : ByteArray), tot (cutS m z s) ≤ s.size
  | 0, _, s => by show total [] ≤ _; simp [total]
  | m + 1, z, s => by
    have h := cutS_tot m (dp z 2) (dp s (numL (bs (tk z 2))))
    show tot (_ :: cutS m _ _) ≤ _
    rw [tot_cons, tk_size]
    rw [dp_size] at h
    omega
/-- how many chunks a blob says there are -/
def cnt (b : ByteArray) : Nat := numL (bs (tk (dp b 4) 2))
def szs (b : ByteArray) : ByteArray := tk (dp (dp b 4) 2) (2 * cnt b)
def bodyS (b : ByteArray) : ByteArray := dp (dp (dp b 4) 2) (2 * cnt b)
def toldS (b : ByteArray) : List ByteArray := cutS ((szs b).size / 2) (szs b) (bodyS b)
theorem cnt_lt (b : ByteArray) : cnt b < 65536 := numL_lt _ (fun x hx => bs_lt _ x hx) (by rw [bs_length, tk_size]; omega)
theorem szs_size (b : ByteArray) : (szs b).size ≤ b.size := by unfold szs; rw [tk_size, dp_size, dp_size]; omega
theorem bodyS_size (b : ByteArray) : (bodyS b).size ≤ b.size := by unfold bodyS; rw [dp_size, dp_size, dp_size]; omega
theorem told_len (b : ByteArray) : (toldS b).length = (szs b).size / 2 := cutS_len _ _ _
theorem told_tot (b : ByteArray) : tot (toldS b) ≤ b.size := Nat.le_trans (cutS_tot _ _ _) (bodyS_size b)
theorem numL_n2 (n : Nat) (h : n < 65536) : numL (n2 n) = n := by
  show (0 * 256 + n / 256 % 256) * 256 + n % 256 = n
  omega
theorem cutS_map : ∀ (c : List (List Nat)) (z s : ByteArray), Chunks c → bs z = c.flatMap (fun x => n2 x.length) → bs s = c.flatten → (cutS c.length z s).map bs = c
  | [], _, _, _, _, _ => rfl
  | x :: r, z, s, hc, hz, hs => by
    have hx := (hc x (by simp)).2
    rw [List.flatMap_cons] at hz
    rw [List.flatten_cons] at hs
    have e1 : bs (tk z 2) = n2 x.length := by rw [bs_tk, hz]; exact List.take_left (l₁ := n2 x.length)
    have e2 : numL (bs (tk z 2)) = x.length := by rw [e1, numL_n2 _ (by omega)]
    show bs (tk s (numL (bs (tk z 2)))) :: (cutS r.length (dp z 2) (dp s (numL (bs (tk z 2))))).map bs = _
    rw [e2, bs_tk, hs, List.take_left, cutS_map r (dp z 2) (dp s x.length) (fun y hy => hc y (by simp [hy])) (by rw [bs_dp, hz]; exact List.drop_left (l₁ := n2 x.length)) (by rw [bs_dp, hs, List.drop_left])]
/-- what is told of a pack's blob -/
theorem told_blob {c : List (List Nat)} {b : ByteArray} (hM : May c) (hb : bs b = blob c) : (toldS b).map bs = c := by
  have hm := hM.most
  have e4 : bs (dp b 4) = n2 c.length ++ ((c.flatMap fun x => n2 x.length) ++ c.flatten) := by
    rw [bs_dp, hb]
    unfold blob head
    rw [List.append_assoc, List.append_assoc]
    exact List.drop_left (l₁ := pak1)
  have ec : cnt b = c.length := by
    unfold cnt
    rw [bs_tk, e4, List.take_append_of_le_length (by rw [n2_len]; exact Nat.le_refl _), List.take_of_length_le (by rw [n2_len]; exact Nat.le_refl _), numL_n2 _ (by omega)]
  have e6 : bs (dp (dp b 4) 2) = (c.flatMap fun x => n2 x.length) ++ c.flatten := by
    rw [bs_dp, e4]; exact List.drop_left (l₁ := n2 c.length)
  have ez : bs (szs b) = c.flatMap fun x => n2 x.length := by
    unfold szs
    rw [bs_tk, e6, ec, ← sizes_len c, List.take_left]
  have eb : bs (bodyS b) = c.flatten := by
    unfold bodyS
    rw [bs_dp, e6, ec, ← sizes_len c, List.drop_left]
  have el : (szs b).size / 2 = c.length := by
    rw [← bs_length, ez, sizes_len]; omega
  unfold toldS
  rw [el]
  exact cutS_map c _ _ hM.each ez eb
/-! rows of texts -/
def sTx (l : List ByteArray) : Array Value := (l.map Value.string).toArray
theorem sTx_size (l : List ByteArray) : (sTx l).size = l.length := by simp [sTx]
theorem sTx_set (l : List ByteArray) (i : Nat) (s : ByteArray) : (sTx l).setIfInBounds i (.string s) = sTx (l.set i s) := by
  simp [sTx, List.map_set]
theorem makes_strs (n : Nat) (hn : n ≤ 1000000) (w : World) : (Instr.makeSlice 22 (.int .i64 (n : Int)) (.int .i64 (n : Int))).run Tryd.prog w = .ok (.slice (some ⟨w.heap.size, 0, none⟩) n n) (w.alloc (.cells (sTx (List.replicate n ⟨#[]⟩)) 9)) := by
  obtain ⟨i, hi, h1, h2, h3⟩ := info_parts (show (Tryd.prog.info? 9).map (fun i => (i.zero, i.size, i.bytes)) = some (some (.string ⟨#[]⟩), 1, 16) by kernel_rfl)
  rw [run_make w 22 9 i (.string ⟨#[]⟩) Tryd.underlying22 hi h1 .i64 .i64 (n : Int) (n : Int) (by omega) (Int.le_refl _) (by rw [h3]; omega) (by omega)]
  have e : madeCells (Value.string ⟨#[]⟩).cells (n * 1) = sTx (List.replicate n ⟨#[]⟩) := by
    apply Array.toList_inj.1
    have hz : (Value.string ⟨#[]⟩).cells = #[.string ⟨#[]⟩] := rfl
    rw [hz, Nat.mul_one]
    apply List.ext_getElem
    · simp [madeCells, sTx]
    · intro k h1 h2
      simp [madeCells, sTx, Nat.mod_one]
  rw [h2, Int.toNat_natCast, e]
theorem has_tx {w : World} {g : Nat} {l : List ByteArray} (h : Has w g (sTx l) 9) : Tx w (some ⟨g, 0, none⟩) l := by
  intro j hj
  refine ⟨g, 0, rfl, h.lt, ?_⟩
  rw [Nat.zero_add, h.cell]
  simp [sTx, List.getD_eq_getElem?_getD, List.getElem?_eq_getElem hj]
/-- the first ones of n, and empty ones -/
def padS (p : List ByteArray) (n : Nat) : List ByteArray := p ++ List.replicate (n - p.length) ⟨#[]⟩
theorem padS_zero (n : Nat) : padS [] n = List.replicate n ⟨#[]⟩ := by simp [padS]
theorem padS_all (p : List ByteArray) : padS p p.length = p := by simp [padS]
theorem padS_len (p : List ByteArray) (n : Nat) (h : p.length ≤ n) : (padS p n).length = n := by
  unfold padS; rw [List.length_append, List.length_replicate]; omega
theorem padS_set (p : List ByteArray) (n : Nat) (s : ByteArray) (h : p.length < n) : (padS p n).set p.length s = padS (p ++ [s]) n := by
  unfold padS
  rw [List.set_append_right _ _ (Nat.le_refl _), Nat.sub_self, List.length_append, show n - p.length = (n - (p.length + 1)) + 1 by omega, List.replicate_succ, List.set_cons_zero, List.append_assoc]
  rfl
theorem padS_cell {w : World} {g n : Nat} {p : List ByteArray} (h : Has w g (sTx (padS p n)) 9) (hl : p.length < n) : ∃ y, w.cell? ⟨g, p.length, none⟩ = some (.string y) := by
  rw [h.cell]
  exact ⟨(padS p n).getD p.length ⟨#[]⟩, by simp [sTx, List.getD_eq_getElem?_getD, List.getElem?_eq_getElem (show p.length < (padS p n).length by rw [padS_len _ _ (by omega)]; exact hl)]⟩
set_option maxRecDepth 20000 in
set_option maxHeartbeats 2000000 in
theorem cloned_any (l : List ByteArray) (A : Option Addr) (cap : Nat) (w : World) (h : Tx w A l) (hl : l.length ≤ 1000000) (ht : tot l ≤ 100000000) :
    Calls Tryd.prog 26 #[.slice A l.length cap] w fun e w' => e = .returned (.slice (some ⟨w.heap.size, 0, none⟩) l.length l.length) ∧ Tx w' (some ⟨w.heap.size, 0, none⟩) l ∧ Below w.heap.size w w' := by
  have hmk := fun W => makes_strs l.length hl W
  obtain ⟨n, hn⟩ : ∃ n, n = l.length := ⟨_, rfl⟩
  have HN := hid hn
  have HL := hid h
  have HT := hid ht
  have h0 := hid (Has.new w w.heap.size (sTx (padS (l.take 0) l.length)) 9 rfl)
  rw [List.take_zero, padS_zero] at h0
  have hb0 : Below w.heap.size w (w.alloc (.cells (sTx (List.replicate l.length ⟨#[]⟩)) 9)) := (Below.refl _ _).alloc (Nat.le_refl _) _
  rw [← hn] at hl hmk hb0 h0 ⊢
  clear hn h ht
  go_enter Tryd.func26, Tryd.ntmps26
  go_wp2_with fail
  go_loopw [4, 5, 11] (fun _ _ v11 wr => ∃ k : Nat, k ≤ n ∧ v11 = .int .i64 (k : Int) ∧ Has wr w.heap.size (sTx (padS (l.take k) n)) 9 ∧ Below w.heap.size w wr) (fun _ _ v11 _ => n - (intOf v11).toNat)
  case atStart => exact ⟨0, Nat.zero_le _, rfl, by rw [List.take_zero, padS_zero]; exact h0.out, hb0⟩
  case round =>
    clear h0 hb0 hmk
    obtain ⟨k, hk, rfl, hH, hB⟩ := hrel
    by_cases hlt : k < n
    · have hkl : k < l.length := by rw [← HN.out]; exact hlt
      obtain ⟨g, o, rfl, hg, c0⟩ := tx_cell HL.out hB hkl
      have hpl : (l.take k).length = k := by rw [List.length_take]; omega
      have hs : (l.getD k ⟨#[]⟩).size ≤ 281474976710656 := by have := tot_le (getD_mem hkl); have := HT.out; omega
      have HTN := hid (take_next l k hkl)
      have HSET : Hid (∀ W, Has W w.heap.size (sTx (padS (l.take k) n)) 9 → Has (W.setCell ⟨w.heap.size, k, none⟩ (.string (l.getD k ⟨#[]⟩))) w.heap.size (sTx (padS (l.take (k + 1)) n)) 9) := fun W hW => by
        have h1 := hW.set k (.string (l.getD k ⟨#[]⟩))
        have h2 := padS_set (l.take k) n (l.getD k ⟨#[]⟩) (by omega)
        rw [hpl] at h2
        rw [sTx_set, h2, ← HTN.out] at h1
        exact h1
      have HCELL : Hid (∀ W, Has W w.heap.size (sTx (padS (l.take k) n)) 9 → ∃ y, W.cell? ⟨w.heap.size, k, none⟩ = some (.string y)) := fun W hW => by
        obtain ⟨y, hy⟩ := padS_cell hW (by omega)
        rw [hpl] at hy
        exact ⟨y, hy⟩
      generalize l.getD k ⟨#[]⟩ = s at *
      have i1 : (k : Int) < (n : Int) := by omega
      have wk : IntKind.i64.wrap ((k : Int) + 1) = ((k + 1 : Nat) : Int) := by rw [IntKind.wrap_i64]; omega
      have C := fun W => clone_any s W hs
      have HH := hid hH
      have HB := hid hB
      clear hH hB hpl HTN hs
      go_wp2_with fail
      refine (C _).mono ?_
      rintro e w1 ⟨rfl, b1⟩
      have H1 := hid (HH.out.below b1 HH.out.lt)
      have B1 := hid (HB.out.trans (b1.mono HB.out.size))
      obtain ⟨y, c1⟩ := HCELL.out _ H1.out
      have f1 := H1.out.frozen k
      clear b1 HH HB HCELL C
      go_wp2_with fail
      go_roundw
      case rel => exact ⟨k + 1, by omega, by rfl, HSET.out _ H1.out, B1.out.setCell (p := ⟨w.heap.size, k, none⟩) (Nat.le_refl _) _⟩
      case measure => first | (simp [intOf]; done) | (simp [intOf]; omega)
    · obtain rfl : k = n := by omega
      have q1 : ¬ ((k : Int) < (k : Int)) := by omega
      have e : padS (l.take k) k = l := by rw [HN.out, List.take_length]; exact padS_all l
      rw [e] at hH
      have HH := hid (has_tx hH)
      clear hH e
      go_wp2_with fail
      go_ret
      exact ⟨rfl, HH.out, hB⟩
/-- what cuts parts off the text in block b -/
theorem off_any (b : Nat) (s : ByteArray) (n : Nat) (W : World) (h : Has W b #[.string s] 9) (hs : s.size ≤ 1000000) (hn : n ≤ 1000000) :
    Calls Tryd.prog 48 #[.int .i64 (n : Int), .pointer (some ⟨b, 0, none⟩)] W fun e w' => e = .returned (.string (tk s n)) ∧ Has w' b #[.string (dp s n)] 9 ∧ Only b W w' := cut_any s hs n b hn W h
/-- told's memory: what is to be cut, the sizes, the chunks -/
structure TW (w W : World) (s z : ByteArray) (l : List ByteArray) : Prop where
  hs : Has W w.heap.size #[.string s] 9
  hz : Has W (w.heap.size + 1) #[.string z] 9
  hl : Has W (w.heap.size + 2) (sTx l) 9
  bl : Below w.heap.size w W
theorem TW.cutS {w W : World} {s z : ByteArray} {l : List ByteArray} (h : TW w W s z l) (n : Nat) (h1 : s.size ≤ 1000000) (hn : n ≤ 1000000) :
    Calls Tryd.prog 48 #[.int .i64 (n : Int), .pointer (some ⟨w.heap.size, 0, none⟩)] W fun e w' => e = .returned (.string (tk s n)) ∧ TW w w' (dp s n) z l := by
  refine (off_any _ s n W h.hs h1 hn).mono ?_
  rintro e w' ⟨rfl, h2, ho⟩
  exact ⟨rfl, h2, ho.has h.hz (by omega), ho.has h.hl (by omega), h.bl.trans (ho.below (Nat.le_refl _))⟩
theorem TW.cutZ {w W : World} {s z : ByteArray} {l : List ByteArray} (h : TW w W s z l) (n : Nat) (h1 : z.size ≤ 1000000) (hn : n ≤ 1000000) :
    Calls Tryd.prog 48 #[.int .i64 (n : Int), .pointer (some ⟨w.heap.size + 1, 0, none⟩)] W fun e w' => e = .returned (.string (tk z n)) ∧ TW w w' s (dp z n) l := by
  refine (off_any _ z n W h.hz h1 hn).mono ?_
  rintro e w' ⟨rfl, h2, ho⟩
  exact ⟨rfl, ho.has h.hs (by omega), h2, ho.has h.hl (by omega), h.bl.trans (ho.below (Nat.le_succ _))⟩
theorem TW.put {w W : World} {s z : ByteArray} {p : List ByteArray} {n : Nat} (h : TW w W s z (padS p n)) (t : ByteArray) (hp : p.length < n) (k : Nat) (hk : k = p.length) : TW w (W.setCell ⟨w.heap.size + 2, k, none⟩ (.string t)) s z (padS (p ++ [t]) n) := by
  subst hk
  have h1 := h.hl.set p.length (.string t)
  rw [sTx_set, padS_set p n t hp] at h1
  exact ⟨h.hs.other _ _ (by simp), h.hz.other _ _ (by simp), h1, h.bl.setCell (p := ⟨w.heap.size + 2, p.length, none⟩) (by simp) _⟩
set_option maxRecDepth 20000 in
set_option maxHeartbeats 2000000 in
theorem told_any (b : ByteArray) (hb : b.size ≤ 500000) (w : World) :
    Calls Tryd.prog 24 #[.string b] w fun e w' => e = .returned (.slice (some ⟨w.heap.size + 2, 0, none⟩) (toldS b).length (toldS b).length) ∧ Tx w' (some ⟨w.heap.size + 2, 0, none⟩) (toldS b) ∧ Below w.heap.size w w' := by
  have hc := cnt_lt b
  have hsz := szs_size b
  have hbz := bodyS_size b
  have d4 := dp_size b 4
  have d6 := dp_size (dp b 4) 2
  have t2 := tk_size (dp b 4) 2
  have N1 := fun W => number_any (tk (dp b 4) 2) (by omega) W
  have HLEN := hid (told_len b)
  obtain ⟨c, ec⟩ : ∃ c, c = cnt b := ⟨_, rfl⟩
  have EZ : Hid (tk (dp (dp b 4) 2) (2 * c) = szs b) := hid (by rw [ec]; rfl)
  have EB : Hid (dp (dp (dp b 4) 2) (2 * c) = bodyS b) := hid (by rw [ec]; rfl)
  have EC : Hid (numL (bs (tk (dp b 4) 2)) = c) := hid (by rw [ec]; rfl)
  have ET : Hid (toldS b = Go.Proofs.YtjhjolnflkekoaaDoor.cutS ((szs b).size / 2) (szs b) (bodyS b)) := rfl
  rw [EC.out] at N1
  rw [← ec] at hc
  obtain ⟨m, em⟩ : ∃ m, m = (szs b).size / 2 := ⟨_, rfl⟩
  rw [← em] at HLEN ET
  rw [HLEN.out]
  have hmk := fun W => makes_strs m (by omega) W
  have qm : (((szs b).size : Nat) : Int) / 2 = (m : Int) := by omega
  have q2c : IntKind.i64.wrap (2 * (c : Int)) = ((2 * c : Nat) : Int) := by rw [IntKind.wrap_i64]; omega
  have h0 := Has.new w w.heap.size #[.string b] 9 rfl
  have hb0 : Below w.heap.size w (w.alloc (.cells #[.string b] 9)) := (Below.refl _ _).alloc (Nat.le_refl _) _
  have hm5 : m ≤ 500000 := by omega
  clear ec em
  go_enter Tryd.func24, Tryd.ntmps24
  go_wp2_with fail
  refine (cutter_any _ _).mono ?_
  rintro e w1 ⟨rfl, rfl⟩
  go_wp2_with fail
  refine (off_any _ b 4 _ h0 (by omega) (by omega)).mono ?_
  rintro e w2 ⟨rfl, h2, o2⟩
  have B2 := hid (hb0.trans (o2.below (Nat.le_refl _)))
  have s2 : w2.heap.size = w.heap.size + 1 := by rw [o2.size]; simp
  clear h0 hb0 o2
  go_wp2_with fail
  refine (off_any _ (dp b 4) 2 _ h2 (by omega) (by omega)).mono ?_
  rintro e w3 ⟨rfl, h3, o3⟩
  have B3 := hid (B2.out.trans (o3.below (Nat.le_refl _)))
  have s3 : w3.heap.size = w.heap.size + 1 := by rw [o3.size]; exact s2
  clear h2 o3 B2
  go_wp2_with fail
  refine (N1 _).mono ?_
  rintro e w4 ⟨rfl, rfl⟩
  go_wp2_with fail
  have C5 := off_any w.heap.size (dp (dp b 4) 2) (2 * c) w4 h3 (by omega) (by omega)
  rw [EZ.out, EB.out, show ((2 * c : Nat) : Int) = 2 * (c : Int) by omega] at C5
  refine C5.mono ?_
  rintro e w5 ⟨rfl, h5, o5⟩
  have B5 := hid (B3.out.trans (o5.below (Nat.le_refl _)))
  have s5 : w5.heap.size = w.heap.size + 1 := by rw [o5.size]; exact s3
  clear C5 h3 o5 B3 s3 N1 EC EZ EB
  go_wp2_with fail
  refine (cutter_any _ _).mono ?_
  rintro e w6 ⟨rfl, rfl⟩
  rw [s5]
  have h6z := Has.new w5 (w.heap.size + 1) #[.string (szs b)] 9 s5.symm
  have h6 := h5.alloc (.cells #[.string (szs b)] 9)
  have s6 : (w5.alloc (.cells #[.string (szs b)] 9)).heap.size = w.heap.size + 2 := by simp [s5]
  have h7l := Has.new (w5.alloc (.cells #[.string (szs b)] 9)) (w.heap.size + 2) (sTx (padS [] m)) 9 s6.symm
  rw [padS_zero] at h7l
  have T7 : Hid (TW w ((w5.alloc (.cells #[.string (szs b)] 9)).alloc (.cells (sTx (List.replicate m ⟨#[]⟩)) 9)) (bodyS b) (szs b) (padS [] m)) := hid ⟨h6.alloc _, h6z.alloc _, by rw [padS_zero]; exact h7l, (B5.out.alloc (by omega) _).alloc (by omega) _⟩
  clear h5 h6z h6 h7l B5
  go_wp2_with fail
  go_loopw [8, 28] (fun _ v28 wr => ∃ (k : Nat) (s z : ByteArray) (pre : List ByteArray), k ≤ m ∧ v28 = .int .i64 (k : Int) ∧ Hid (pre.length = k) ∧ Hid (toldS b = pre ++ Go.Proofs.YtjhjolnflkekoaaDoor.cutS (m - k) z s) ∧ s.size ≤ 500000 ∧ z.size ≤ 500000 ∧ Hid (TW w wr s z (padS pre m))) (fun _ v28 _ => m - (intOf v28).toNat)
  case atStart => exact ⟨0, bodyS b, szs b, [], Nat.zero_le _, rfl, rfl, ET.out, by omega, by omega, T7.out⟩
  case round =>
    clear T7 s2 s5 s6 hmk qm q2c
    obtain ⟨k, s, z, pre, hk, rfl, HP, HE, hs, hz, hT⟩ := hrel
    by_cases hlt : k < m
    · have i1 : (k : Int) < (m : Int) := by omega
      have wk : IntKind.i64.wrap ((k : Int) + 1) = ((k + 1 : Nat) : Int) := by rw [IntKind.wrap_i64]; omega
      have N1 := fun W => number_any (tk z 2) (by rw [tk_size]; omega) W
      obtain ⟨q, hq⟩ : ∃ q, q = numL (bs (tk z 2)) := ⟨_, rfl⟩
      have hql : q < 65536 := by rw [hq]; exact numL_lt _ (fun x hx => bs_lt _ x hx) (by rw [bs_length, tk_size]; omega)
      have HE2 : Hid (toldS b = (pre ++ [tk s q]) ++ Go.Proofs.YtjhjolnflkekoaaDoor.cutS (m - (k + 1)) (dp z 2) (dp s q)) := hid (by
        rw [HE.out, show m - k = (m - (k + 1)) + 1 by omega, List.append_assoc, hq]; rfl)
      rw [← hq] at N1
      have z1 := dp_size z 2
      have z2 := dp_size s q
      have HZ1 : Hid ((dp z 2).size ≤ 500000) := hid (by omega)
      have HZ2 : Hid ((dp s q).size ≤ 500000) := hid (by omega)
      have HS := hid hs
      have HQ := hid hq
      clear hq HE z1 z2
      go_wp2_with fail
      refine (hT.out.cutZ 2 (by omega) (by omega)).mono ?_
      rintro e w7 ⟨rfl, T8⟩
      clear hT
      have T8 := hid T8
      go_wp2_with fail
      refine (N1 _).mono ?_
      rintro e w8 ⟨rfl, rfl⟩
      go_wp2_with fail
      refine (T8.out.cutS q (by have := HS.out; omega) (by omega)).mono ?_
      rintro e w9 ⟨rfl, T9⟩
      obtain ⟨y, c9⟩ := padS_cell T9.hl (by rw [HP.out]; exact hlt)
      rw [HP.out] at c9
      have f9 := T9.hl.frozen k
      have T10 := hid (T9.put (tk s q) (by rw [HP.out]; exact hlt) k HP.out.symm)
      clear T8 T9 N1
      go_wp2_with fail
      go_roundw
      case rel => exact ⟨k + 1, dp s q, dp z 2, pre ++ [tk s q], by omega, by rfl, by rw [List.length_append, HP.out]; rfl, HE2.out, HZ2.out, HZ1.out, T10.out⟩
      case measure => first | (simp [intOf]; done) | (simp [intOf]; omega)
    · obtain rfl : k = m := by omega
      have q1 : ¬ ((k : Int) < (k : Int)) := by omega
      have e : padS pre k = toldS b := by
        rw [HE.out, Nat.sub_self]
        show _ = pre ++ []
        rw [List.append_nil, ← HP.out]; exact padS_all pre
      have hT1 := hT.out
      rw [e] at hT1
      have HH := hid (has_tx hT1.hl)
      have HB := hid hT1.bl
      clear hT hT1 e HP HE
      go_wp2_with fail
      go_ret
      exact ⟨rfl, HH.out, HB.out⟩
end Go.Proofs.YtjhjolnflkekoaaDoor
