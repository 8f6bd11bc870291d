/- Strings as rows of bytes. -/
import Derived.Test.YtgdiaflikfdnaaaPut
import Derived.Laws.MakeOwn
import Derived.Laws.BytesString
import Derived.Lib.ConvBytes
import Derived.Laws.NewFold
namespace Go.Proofs.Ytgdiaflikfdnaaa
open Go.RowKit Go.Maps
def U8s (b : List Nat) : Array Value := (b.map fun x : Nat => Value.int .u8 (x : Int)).toArray
theorem U8s_size (b : List Nat) : (U8s b).size = b.length := by simp [U8s]
theorem U8s_get (b : List Nat) (i : Nat) (h : i < b.length) : (U8s b)[i]? = some (.int .u8 ((b.getD i 0 : Nat) : Int)) := by
  simp [U8s, List.getD_eq_getElem?_getD, List.getElem?_eq_getElem h]
def bs (s : ByteArray) : List Nat := s.data.toList.map (·.toNat)
theorem bs_length (s : ByteArray) : (bs s).length = s.size := by simp [bs]
theorem bs_lt (s : ByteArray) : ∀ x ∈ bs s, x < 256 := by
  intro x hx
  simp only [bs, List.mem_map] at hx
  obtain ⟨b, _, rfl⟩ := hx
  exact b.toNat_lt
def ofBs (l : List Nat) : ByteArray := ⟨(l.map fun x => x.toUInt8).toArray⟩
theorem bs_ofBs (l : List Nat) (h : ∀ x ∈ l, x < 256) : bs (ofBs l) = l := by
  unfold bs ofBs
  simp only [List.map_map]
  have : List.map ((fun x : UInt8 => x.toNat) ∘ fun x : Nat => x.toUInt8) l = List.map id l := by
    apply List.map_congr_left
    intro x hx
    have := h x hx
    simp [Function.comp]
    omega
  rw [this, List.map_id]
theorem ofBs_bs (s : ByteArray) : ofBs (bs s) = s := by
  have e : (bs s).map (fun x => x.toUInt8) = s.data.toList := by
    unfold bs
    rw [List.map_map]
    have : List.map ((fun x : Nat => x.toUInt8) ∘ fun x : UInt8 => x.toNat) s.data.toList = List.map id s.data.toList := by
      apply List.map_congr_left
      intro x _
      simp [Function.comp]
    rw [this, List.map_id]
  unfold ofBs
  rw [e]
theorem bs_inj {a b : ByteArray} (h : bs a = bs b) : a = b := by rw [← ofBs_bs a, ← ofBs_bs b, h]
theorem ofBs_size (l : List Nat) : (ofBs l).size = l.length := by
  show ((l.map fun x => x.toUInt8).toArray).size = _
  simp
theorem bs_getD (s : ByteArray) (k : Nat) (h : k < s.size) : (bs s).getD k 0 = s[k].toNat := by
  rw [List.getD_eq_getElem?_getD, List.getElem?_eq_getElem (by rw [bs_length]; exact h)]
  simp [bs]
  rfl
theorem bs_extract (s : ByteArray) (a b : Nat) : bs (s.extract a b) = ((bs s).take b).drop a := by
  have e : (s.extract a b).data.toList = (s.data.toList.take b).drop a := by
    rw [ByteArray.data_extract, Array.toList_extract, List.extract_eq_take_drop, List.drop_take]
  unfold bs; rw [e, List.map_drop, List.map_take]
theorem bs_append (a b : ByteArray) : bs (a ++ b) = bs a ++ bs b := by
  unfold bs; rw [ByteArray.data_append]; simp
theorem fold_push (l : List Nat) (acc : ByteArray) : (l.map fun x : Nat => (x : Int)).foldl (fun r n => r.push (UInt8.ofNat n.toNat)) acc = ⟨acc.data ++ (l.map fun x => x.toUInt8).toArray⟩ := by
  induction l generalizing acc with
  | nil => simp
  | cons x l ih =>
    simp only [List.map_cons, List.foldl_cons, ih, Int.toNat_natCast]
    have : (acc.push (UInt8.ofNat x)).data = acc.data.push (UInt8.ofNat x) := rfl
    rw [this]
    congr 1
    apply Array.toList_inj.1
    simp
theorem conv_str (w : World) (b : Nat) (l : List Nat) (t : TypeId) (c : Nat) (h : Has w b (U8s l) t) :
    (convert 113 9 (.slice (some ⟨b, 0, none⟩) l.length c)).run Try.prog w = .ok (.string (ofBs l)) w := by
  rw [run_convert_bytes_string w 113 9 5 _ _ _ Try.underlying113 Try.underlying5 Try.underlying9]
  have hl : (loadCells ⟨b, 0, none⟩ l.length).run Try.prog w = .ok ((l.map fun x : Nat => (x : Int)).map (Value.int .u8)).toArray w := by
    have h2 := run_loadCells_list (P := Try.prog) w ⟨b, 0, none⟩ (U8s l).toList (fun j v hv => by rw [Addr.add_mid]; exact h.range j v hv)
    rw [Array.length_toList, U8s_size] at h2
    rw [h2]
    simp [U8s]
  rw [run_bytesToString w _ _ _ _ hl, fold_push]
  simp [ofBs]
theorem makes_bytes (n : Nat) (hn : n ≤ 1000000) (w : World) : (Instr.makeSlice 113 (.int .i64 (n : Int)) (.int .i64 (n : Int))).run Try.prog w = .ok (.slice (some ⟨w.heap.size, 0, none⟩) n n) (w.alloc (.cells (U8s (List.replicate n 0)) 5)) := by
  have hinfo : (Try.prog.info? 5).map (fun i => (i.zero, i.size, i.bytes)) = some (some (.int .u8 0), 1, 1) := by kernel_rfl
  cases hi : Try.prog.info? 5 with
  | none => rw [hi] at hinfo; simp at hinfo
  | some i =>
    rw [hi] at hinfo
    simp only [Option.map_some, Option.some.injEq, Prod.mk.injEq] at hinfo
    obtain ⟨h1, h2, h3⟩ := hinfo
    rw [run_make w 113 5 i (.int .u8 0) Try.underlying113 hi h1 .i64 .i64 (n : Int) (n : Int) (by omega) (Int.le_refl _) (by rw [h3]; omega) (by omega)]
    have e : madeCells (Value.int .u8 0).cells (n * 1) = U8s (List.replicate n 0) := by
      apply Array.toList_inj.1
      have hz : (Value.int .u8 0).cells = #[.int .u8 0] := rfl
      rw [hz, Nat.mul_one]
      apply List.ext_getElem
      · simp [madeCells, U8s]
      · intro k h1 h2
        simp [madeCells, U8s, Nat.mod_one]
    rw [h2, Int.toNat_natCast, e]
def BRow (W : World) (g : Nat) (l : List Nat) : Prop := ∃ cs t fr, W.heap[g]? = some (.cells cs t fr) ∧ (∀ j, j < l.length → cs[j]? = some (.int .u8 ((l.getD j 0 : Nat) : Int))) ∧ l.length ≤ fr.1
theorem BRow.lt {W : World} {g : Nat} {l : List Nat} (h : BRow W g l) : g < W.heap.size := by
  obtain ⟨cs, t, fr, h, _⟩ := h; exact (Array.getElem?_eq_some_iff.1 h).1
theorem BRow.cell {W : World} {g : Nat} {l : List Nat} (h : BRow W g l) (j : Nat) (hj : j < l.length) : W.cell? ⟨g, j, none⟩ = some (.int .u8 ((l.getD j 0 : Nat) : Int)) := by
  obtain ⟨cs, t, fr, h, hc, _⟩ := h
  simp [World.cell?, h, hc j hj]
theorem BRow.frozen {W : World} {g : Nat} {l : List Nat} (h : BRow W g l) (j : Nat) (hj : j < l.length) : W.frozen? ⟨g, j, none⟩ = false := by
  obtain ⟨cs, t, fr, h, _, hf⟩ := h
  simp [World.frozen?, h]
  omega
theorem BRow.below {W W' : World} {g : Nat} {l : List Nat} (h : BRow W g l) (hb : Below W.heap.size W W') : BRow W' g l := by
  have hl := h.lt
  obtain ⟨cs, t, fr, h, r⟩ := h
  exact ⟨cs, t, fr, by rw [hb.block g hl]; exact h, r⟩
theorem BRow.alloc {W : World} {g : Nat} {l : List Nat} (h : BRow W g l) (o : Obj) : BRow (W.alloc o) g l := h.below ((Below.refl _ _).alloc (Nat.le_refl _) o)
theorem BRow.set {W : World} {g : Nat} {l : List Nat} (h : BRow W g l) (k y : Nat) (z : Int) (hz : z = (y : Int)) (hk : k < l.length) : BRow (W.setCell ⟨g, k, none⟩ (.int .u8 z)) g (l.set k y) := by
  subst hz
  obtain ⟨cs, t, fr, h, hc, hf⟩ := h
  refine ⟨cs.setIfInBounds k (.int .u8 (y : Int)), t, fr, ?_, fun j hj => ?_, by simpa using hf⟩
  · simp [World.setCell, Array.getElem?_modify, h]
  · rw [List.length_set] at hj
    have hcs := hc j hj
    have hsz : j < cs.size := (Array.getElem?_eq_some_iff.1 hcs).1
    rw [List.getD_eq_getElem?_getD, List.getElem?_set]
    by_cases hkj : k = j
    · subst hkj
      rw [if_pos rfl, if_pos hk]
      simp [hsz]
    · rw [if_neg hkj, ← List.getD_eq_getElem?_getD, Array.getElem?_setIfInBounds_ne hkj]
      exact hcs
theorem brow_new (w : World) (s : ByteArray) : BRow (Lib.bytesWorld w 5 s) w.heap.size (bs s) := by
  refine ⟨_, _, _, Lib.bytesWorld_at_new w 5 s, fun j hj => ?_, ?_⟩
  · rw [bs_length] at hj
    have h := Lib.bytesWorld_cell w 5 s j hj
    rw [World.cell?, Lib.bytesWorld_at_new] at h
    have h' : (Lib.bytesCells w 5 s)[j]? = some (Value.int .u8 ((s.data.toList.getD j 0).toNat : Int)) := h
    rw [h']
    congr 3
    simp [bs, List.getD_eq_getElem?_getD, hj]
  · have hge := grownCap_ge w s.size 0 5
    rw [bs_length]
    simp [Lib.bytesCells]
theorem BRow.conv {W : World} {g : Nat} {l : List Nat} (h : BRow W g l) (n c : Nat) (hn : n ≤ l.length) : (convert 113 9 (.slice (some ⟨g, 0, none⟩) n c)).run Try.prog W = .ok (.string (ofBs (l.take n))) W := by
  rw [run_convert_bytes_string W 113 9 5 _ _ _ Try.underlying113 Try.underlying5 Try.underlying9]
  have hl : (loadCells ⟨g, 0, none⟩ n).run Try.prog W = .ok (((l.take n).map fun x : Nat => (x : Int)).map (Value.int .u8)).toArray W := by
    have h2 := run_loadCells_list (P := Try.prog) W ⟨g, 0, none⟩ (U8s (l.take n)).toList (fun j v hv => by
      have hj : j < (l.take n).length := by
        have := (List.getElem?_eq_some_iff.1 hv).1
        simpa [U8s] using this
      have hj' : j < l.length := by rw [List.length_take] at hj; omega
      rw [Addr.add_mid, Nat.zero_add, h.cell j hj', ← hv]
      have := U8s_get (l.take n) j hj
      rw [Array.getElem?_toList, this]
      congr 3
      rw [List.getD_eq_getElem?_getD, List.getD_eq_getElem?_getD, List.getElem?_take_of_lt (by rw [List.length_take] at hj; omega)])
    rw [Array.length_toList, U8s_size, List.length_take, Nat.min_eq_left hn] at h2
    rw [h2]
    simp [U8s]
    rfl
  rw [run_bytesToString W _ _ _ _ hl, fold_push]
  simp [ofBs]
theorem bytes_told (w : World) (s : ByteArray) : ∃ W cap, (convert 9 113 (.string s)).run Try.prog w = .ok (.slice (some ⟨w.heap.size, 0, none⟩) s.size cap) W ∧ BRow W w.heap.size (bs s) ∧ Below w.heap.size w W ∧ s.size ≤ cap :=
  ⟨_, _, Lib.run_convert_string_bytes (P := Try.prog) w 9 113 5 s Try.underlying9 Try.underlying113 Try.underlying5, brow_new w s, ⟨rfl, rfl, rfl, by rw [Lib.bytesWorld_size]; omega, fun k hk => Lib.bytesWorld_at_old w 5 s k hk⟩, by have := grownCap_ge w s.size 0 5; omega⟩
end Go.Proofs.Ytgdiaflikfdnaaa
