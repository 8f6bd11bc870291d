/- The contracts of the small functions: what a chunk is, numbers of two bytes, what cuts parts off a text, a builder. -/
import Derived.Test.YtjhjolnflkekoaaDoorRd
import Derived.Test.YtjhjolnflkekoaaDoorShelf
import Derived.WalkKit
import Derived.OwnWalk
import Derived.Laws.Closers25
import Derived.WalkSpells
import Derived.WalkLawsBesides
import Derived.Laws.BitsAllLaws
namespace Go.Proofs.YtjhjolnflkekoaaDoor
open Go.RowKit
open Pk
set_option linter.unusedVariables false
theorem str_ne {a b : ByteArray} (h : a ≠ b) : (a.toList == b.toList) = false := by
  have e : a.toList ≠ b.toList := fun e => h (by
    have h2 : a.data.toList = b.data.toList := by rw [← ByteArray.toList_eq, ← ByteArray.toList_eq]; exact e
    exact ByteArray.ext (Array.toList_inj.1 h2))
  simpa using e
theorem ret3 {fn : Func} {a : Act} {W : World} {p q r : Tmp} {x y z : Value} {Q : Ending → World → Prop}
    (hf : fn.results = #[.tmp p, .tmp q, .tmp r]) (hx : a.tmps.getD p undef = x) (hy : a.tmps.getD q undef = y) (hz : a.tmps.getD r undef = z) (hd : a.defers = [])
    (hQ : Q (.returned (.tuple #[x, y, z])) W) : bodyPost Tryd.prog fn Q Exit.ret a W :=
  by subst hx hy hz; exact bodyPost_ret (results_tmp3 hf _ _ _) hd hQ
/-- is it a chunk? -/
def mcB (s : ByteArray) : Bool := decide (1 ≤ s.size ∧ s.size ≤ 16384)
theorem mayChunk_any (s : ByteArray) (hs : s.size ≤ maxLen) (w : World) : Calls Tryd.prog 41 #[.string s] w fun e w' => e = .returned (.bool (mcB s)) ∧ w' = w := by
  unfold maxLen at hs
  by_cases h1 : 1 ≤ s.size
  · have d1 : decide ((1 : Int) ≤ (s.size : Int)) = true := by simp; omega
    by_cases h2 : s.size ≤ 16384
    · have d2 : decide ((s.size : Int) ≤ 16384) = true := by simp; omega
      have e : mcB s = true := by unfold mcB; simp [h1, h2]
      rw [e]
      go_enter Tryd.func41, Tryd.ntmps41
      go_wp2_with fail
      go_ret
      exact ⟨rfl, rfl⟩
    · have d2 : decide ((s.size : Int) ≤ 16384) = false := by simp; omega
      have e : mcB s = false := by unfold mcB; simp [h2]
      rw [e]
      go_enter Tryd.func41, Tryd.ntmps41
      go_wp2_with fail
      go_ret
      exact ⟨rfl, rfl⟩
  · have d1 : decide ((1 : Int) ≤ (s.size : Int)) = false := by simp; omega
    have e : mcB s = false := by unfold mcB; simp [show s.size = 0 by omega]
    rw [e]
    go_enter Tryd.func41, Tryd.ntmps41
    go_wp2_with fail
    go_ret
    exact ⟨rfl, rfl⟩
def U8s (b : List Nat) : Array Value := (b.map fun x : Nat => Value.int .u8 (x : Int)).toArray
theorem U8s_size (b : List Nat) : (U8s b).size = b.length := by simp [U8s]
theorem U8s_set (b : List Nat) (i x : Nat) : (U8s b).setIfInBounds i (.int .u8 (x : Int)) = U8s (b.set i x) := by
  simp [U8s, List.map_set]
theorem fold_push (l : List Nat) (acc : ByteArray) : (l.map fun x : Nat => (x : Int)).foldl (fun r n => r.push (UInt8.ofNat n.toNat)) acc = ⟨acc.data ++ (l.map fun x => x.toUInt8).toArray⟩ := by
  induction l generalizing acc with
  | nil => simp
  | cons x l ih =>
    simp only [List.map_cons, List.foldl_cons, ih, Int.toNat_natCast]
    have : (acc.push (UInt8.ofNat x)).data = acc.data.push (UInt8.ofNat x) := rfl
    rw [this]
    congr 1
    apply Array.toList_inj.1
    simp
theorem conv_u8 {W : World} {q : Nat} {l : List Nat} (h : Has W q (U8s l) 5) (hl : 0 < l.length) : (convert 51 9 (.slice (some ⟨q, 0, none⟩) l.length l.length)).run Tryd.prog W = .ok (.string (ofBs l)) W := by
  have hld : (loadCells ⟨q, 0, none⟩ l.length).run Tryd.prog W = .ok ((l.map fun x : Nat => (x : Int)).map (Value.int .u8)).toArray W := by
    have h2 := run_loadCells_list (P := Tryd.prog) W ⟨q, 0, none⟩ (U8s l).toList (fun j v hv => by
      have e : (⟨q, 0, none⟩ : Addr).add j = ⟨q, j, none⟩ := by unfold Addr.add; split <;> simp_all
      rw [e, h.cell j, ← hv]
      simp)
    rw [Array.length_toList, U8s_size] at h2
    rw [h2]
    simp [U8s]
  rw [run_convert_bytes_string W 51 9 5 _ _ _ Tryd.underlying51 Tryd.underlying5 Tryd.underlying9, run_bytesToString W _ _ _ _ hld, fold_push]
  simp [ofBs]
theorem conv_two {W : World} {q a b : Nat} (h : Has W q #[.int .u8 (a : Int), .int .u8 (b : Int)] 5) : (convert 51 9 (.slice (some ⟨q, 0, none⟩) 2 2)).run Tryd.prog W = .ok (.string (ofBs [a, b])) W := conv_u8 (l := [a, b]) h (by simp)
theorem conv_new (w : World) (a b : Nat) (q : Nat) (hq : q = w.heap.size) : (convert 51 9 (.slice (some ⟨q, 0, none⟩) 2 2)).run Tryd.prog (w.alloc (.cells #[.int .u8 (a : Int), .int .u8 (b : Int)] 5)) = .ok (.string (ofBs [a, b])) (w.alloc (.cells #[.int .u8 (a : Int), .int .u8 (b : Int)] 5)) := by
  subst hq; exact conv_two (Has.new _ _ _ 5 rfl)
theorem twoBytes_any (n : Nat) (hn : n < 65536) (w : World) : Calls Tryd.prog 50 #[.int .i64 (n : Int)] w fun e w' => e = .returned (.string (ofBs (n2 n))) ∧ Below w.heap.size w w' := by
  have E1 : IntKind.u8.wrap ((n : Int) / 2 ^ 8) = ((n / 256 % 256 : Nat) : Int) := by rw [IntKind.wrap_u8']; omega
  have E2 : IntKind.u8.wrap (n : Int) = ((n % 256 : Nat) : Int) := by rw [IntKind.wrap_u8']; omega
  have HE : Hid (ofBs (n2 n) = ofBs [n / 256 % 256, n % 256]) := rfl
  rw [HE.out]
  clear HE
  have hcv := conv_new w (n / 256 % 256) (n % 256)
  rw [show ((n / 256 % 256 : Nat) : Int) = (n : Int) / 256 by omega] at hcv
  clear E1
  generalize n / 256 % 256 = a at *
  generalize n % 256 = b at *
  go_enter Tryd.func50, Tryd.ntmps50
  go_wp2_with fail
  go_ret
  exact ⟨rfl, (Below.refl _ _).alloc (Nat.le_refl _) _⟩
theorem refNumber_any (n : Nat) (hn : n < 65536) (w : World) : Calls Tryd.prog 43 #[.int .i64 (n : Int)] w fun e w' => e = .returned (.string (ofBs (n2 n))) ∧ Below w.heap.size w w' := by
  have E1 : IntKind.u8.wrap ((n : Int) / 256) = ((n / 256 % 256 : Nat) : Int) := by rw [IntKind.wrap_u8']; omega
  have E2 : IntKind.u8.wrap ((n : Int) % 256) = ((n % 256 : Nat) : Int) := by rw [IntKind.wrap_u8']; omega
  have HE : Hid (ofBs (n2 n) = ofBs [n / 256 % 256, n % 256]) := rfl
  rw [HE.out]
  clear HE
  generalize n / 256 % 256 = a at *
  generalize n % 256 = b at *
  have hcv := conv_new w a b
  go_enter Tryd.func43, Tryd.ntmps43
  go_wp2_with fail
  go_ret
  exact ⟨rfl, (Below.refl _ _).alloc (Nat.le_refl _) _⟩
/-- what some bytes say, the highest first -/
def numL (l : List Nat) : Nat := l.foldl (fun n x => n * 256 + x) 0
theorem numL_snoc (l : List Nat) (x : Nat) : numL (l ++ [x]) = numL l * 256 + x := by unfold numL; rw [List.foldl_append]; rfl
theorem numL_lt (l : List Nat) (h : ∀ x ∈ l, x < 256) (hl : l.length ≤ 2) : numL l < 65536 := by
  match l, hl, h with
  | [], _, _ => decide
  | [a], _, h =>
    have := h a (by simp)
    show 0 * 256 + a < 65536; omega
  | [a, b], _, h =>
    have := h a (by simp)
    have := h b (by simp)
    show (0 * 256 + a) * 256 + b < 65536; omega
theorem or8 (x b : Nat) (hx : x < 65536) (hb : b < 256) : bits .or .i64 ((x : Int) * 256) (b : Int) = ((x * 256 + b : Nat) : Int) := by
  have e : (x : Int) * 256 = ((x * 256 : Nat) : Int) := by omega
  rw [e]
  show IntKind.i64.wrap ((BitVec.ofInt 64 ((x * 256 : Nat) : Int) ||| BitVec.ofInt 64 (b : Int)).toNat : Int) = _
  have e2 : x * 256 ||| b = x * 256 + b := by
    have := Nat.shiftLeft_add_eq_or_of_lt (i := 8) (b := b) (by omega) x
    rw [Nat.shiftLeft_eq] at this
    exact this.symm
  rw [BitVec.toNat_or, BitVec.ofInt_natCast, BitVec.ofInt_natCast, BitVec.toNat_ofNat, BitVec.toNat_ofNat, Nat.mod_eq_of_lt (by omega), Nat.mod_eq_of_lt (by omega), e2]
  rw [IntKind.wrap_i64]; omega
theorem ex_or8 (x b : Nat) (hx : x < 65536) (hb : b < 256) : ∃ y : Nat, Hid (y = x * 256 + b) ∧ bits .or .i64 ((x : Int) * 256) (b : Int) = (y : Int) := ⟨_, rfl, or8 x b hx hb⟩
theorem bs_take_next (s : ByteArray) (k : Nat) (h : k < s.size) : (bs s).take (k + 1) = (bs s).take k ++ [s[k].toNat] := by
  rw [List.take_succ_eq_append_getElem (by rw [bs_length]; exact h)]
  simp [bs]
  rfl
theorem number_any (s : ByteArray) (hs : s.size ≤ 2) (w : World) : Calls Tryd.prog 37 #[.string s] w fun e w' => e = .returned (.int .i64 ((numL (bs s) : Nat) : Int)) ∧ w' = w := by
  go_enter Tryd.func37, Tryd.ntmps37
  go_wp2_with fail
  go_loop [3, 4, 7] (fun v3 _ v7 => ∃ k : Nat, k ≤ s.size ∧ v7 = .int .i64 (k : Int) ∧ v3 = .int .i64 ((numL ((bs s).take k) : Nat) : Int)) (fun _ _ v7 => s.size - (intOf v7).toNat)
  case atStart => exact ⟨0, Nat.zero_le _, rfl, rfl⟩
  case round =>
    obtain ⟨k, hk, rfl, rfl⟩ := hrel
    by_cases hlt : k < s.size
    · have hx : numL ((bs s).take k) < 65536 := numL_lt _ (fun x hx => bs_lt s x (List.mem_of_mem_take hx)) (by rw [List.length_take]; omega)
      have hb : s[k].toNat < 256 := s[k].toNat_lt
      obtain ⟨y, hy, E⟩ := ex_or8 _ _ hx hb
      have HN : Hid (numL ((bs s).take (k + 1)) = y) := hid (by rw [bs_take_next s k hlt, numL_snoc]; exact hy.out.symm)
      clear hy
      have i1 : (k : Int) < (s.size : Int) := by omega
      have i0 : (0 : Int) ≤ (k : Int) := by omega
      have wk : IntKind.i64.wrap ((k : Int) + 1) = ((k + 1 : Nat) : Int) := by rw [IntKind.wrap_i64]; omega
      generalize numL ((bs s).take k) = x at *
      go_wp2_with fail
      go_round
      case rel => exact ⟨k + 1, by omega, by rfl, by rw [HN.out]⟩
      case measure => first | (simp [intOf]; done) | (simp [intOf]; omega)
    · obtain rfl : k = s.size := by omega
      have q1 : ¬ ((s.size : Int) < (s.size : Int)) := by omega
      have HT : Hid ((bs s).take s.size = bs s) := hid (List.take_of_length_le (by rw [bs_length]; omega))
      go_wp2_with fail
      go_ret
      exact ⟨by rw [HT.out]; rfl, rfl⟩
/-- nothing but block b has turned -/
structure Only (b : Nat) (w w' : World) : Prop where
  os : w'.os = w.os
  tape : w'.tape = w.tape
  output : w'.output = w.output
  size : w'.heap.size = w.heap.size
  block : ∀ k, k ≠ b → w'.heap[k]? = w.heap[k]?
theorem Only.has {b : Nat} {w w' : World} (h : Only b w w') {q : Nat} {cs : Array Value} {t : TypeId} (hh : Has w q cs t) (hn : q ≠ b) : Has w' q cs t := by
  unfold Has at hh ⊢; rw [h.block q hn]; exact hh
theorem Only.below {b : Nat} {w w' : World} (h : Only b w w') {B : Nat} (hb : B ≤ b) : Below B w w' :=
  ⟨h.os, h.tape, h.output, by rw [h.size]; exact Nat.le_refl _, fun k hk => h.block k (by omega)⟩
theorem only_set (w : World) (b o : Nat) (v : Value) : Only b w (w.setCell ⟨b, o, none⟩ v) :=
  ⟨rfl, rfl, rfl, by simp [World.setCell], fun k hk => Below.heap_setCell _ _ _ _ hk⟩
theorem cutter_any (s : ByteArray) (w : World) : Calls Tryd.prog 36 #[.string s] w fun e w' => e = .returned (.func (.func 48) #[] #[.pointer (some ⟨w.heap.size, 0, none⟩)]) ∧ w' = w.alloc (.cells #[.string s] 9) := by
  go_enter Tryd.func36, Tryd.ntmps36
  go_wp2
  go_ret
  exact ⟨rfl, rfl⟩
/-- the first n bytes are cut off -/
theorem cut_any (s : ByteArray) (hs : s.size ≤ 1000000) (n b : Nat) (hn : n ≤ 1000000) (w : World) (h : Has w b #[.string s] 9) :
    Calls Tryd.prog 48 #[.int .i64 (n : Int), .pointer (some ⟨b, 0, none⟩)] w fun e w' => e = .returned (.string (s.extract 0 (min n s.size))) ∧ Has w' b #[.string (s.extract (min n s.size) s.size)] 9 ∧ Only b w w' := by
  have c0 : w.cell? ⟨b, 0, none⟩ = some (.string s) := h.cell 0
  have f0 := h.frozen 0
  by_cases h1 : n ≤ s.size
  · have hm : Hid (min n s.size = n) := hid (Nat.min_eq_left h1)
    have q1 : min (n : Int) (s.size : Int) = (n : Int) := by omega
    have q2 : (n : Int) ≤ (s.size : Int) := by omega
    rw [hm.out]
    go_enter Tryd.func48, Tryd.ntmps48
    go_wp2_with fail
    go_ret
    exact ⟨rfl, h.set 0 _, only_set _ _ _ _⟩
  · have hm : Hid (min n s.size = s.size) := hid (Nat.min_eq_right (by omega))
    have q1 : min (n : Int) (s.size : Int) = (s.size : Int) := by omega
    rw [hm.out]
    go_enter Tryd.func48, Tryd.ntmps48
    go_wp2_with fail
    go_ret
    exact ⟨by rw [show s.extract 0 s.size = s by simp]; rfl, by rw [show s.extract s.size s.size = ByteArray.empty by simp]; exact h.set 0 _, only_set _ _ _ _⟩
/-! a builder -/
/-- the builder in block b holds these bytes -/
def Holds (b : Nat) (l : List Nat) (w : World) : Prop := Lib.IsBuilder 80 5 b b (U8s l).toList w
theorem Holds.lt {b : Nat} {l : List Nat} {w : World} (h : Holds b l w) : b < w.heap.size := h.elim (fun x => x.lt) (fun x => x.lt)
theorem Holds.fresh (w : World) (b : Nat) (hb : b = w.heap.size) : Holds b [] (w.alloc (.cells #[.pointer none, .slice none 0 0] 80)) := by
  subst hb; exact Lib.fresh_isBuilder 80 5 w
theorem Holds.below {b : Nat} {l : List Nat} {w W : World} (h : Holds b l w) (hb : Below w.heap.size w W) : Holds b l W := by
  have key : ∀ {q : Value}, Lib.BuilderAt 80 5 b b q (U8s l).toList w → Lib.BuilderAt 80 5 b b q (U8s l).toList W := by
    intro q hq
    have hlt := hq.lt
    obtain ⟨h1, v, h2, h3, h4⟩ := hq
    refine ⟨h1, v, by rw [hb.block b hlt]; exact h2, h3.kept (row := none) ⟨hb.os, hb.tape, hb.output, hb.size, fun k hk _ => hb.block k hk⟩ ?_, h4⟩
    cases v.ownBlock with
    | none => exact .inl rfl
    | some k => exact .inr (by simp)
  exact h.elim (fun x => .inl (key x)) (fun x => .inr (key x))
theorem strCells_bs (s : ByteArray) : Lib.strCells s = (U8s (bs s)).toList := by
  simp [Lib.strCells, U8s, bs]
theorem cells_u8 (l : List Nat) (h : ∀ x ∈ l, x < 256) : Lib.byteCells (l.map fun x => x.toUInt8) = (U8s l).toList := by
  unfold Lib.byteCells U8s
  simp only [List.map_map]
  apply List.map_congr_left
  intro x hx
  have := h x hx
  simp [Function.comp]
  omega
theorem puts_any (b : Nat) (l : List Nat) (s : ByteArray) (w : World) (h : Holds b l w) (hl : l.length + s.size ≤ 100000000000000) :
    Calls Tryd.prog 49 #[.pointer (some ⟨b, 0, none⟩), .string s] w fun e w' => e = .returned (.tuple #[.int .i64 s.size, .nilIface]) ∧ Holds b (l ++ bs s) w' ∧ Below b w w' := by
  refine (Tryd.Builder_WriteString b b _ s w h (by rw [Array.length_toList, U8s_size]; omega) (Nat.le_of_lt h.lt)).mono ?_
  rintro e w' ⟨rfl, h1, h2⟩
  refine ⟨rfl, Or.inr ?_, h2⟩
  rw [strCells_bs] at h1
  have e : (U8s l).toList ++ (U8s (bs s)).toList = (U8s (l ++ bs s)).toList := by simp [U8s]
  rw [← e]; exact h1
theorem tell_any (b : Nat) (l : List Nat) (w : World) (h : Holds b l w) (hl : ∀ x ∈ l, x < 256) :
    Calls Tryd.prog 47 #[.pointer (some ⟨b, 0, none⟩)] w fun e w' => e = .returned (.string (ofBs l)) ∧ Below b w w' := by
  have h' : Lib.IsBuilder 80 5 b b (Lib.byteCells (l.map fun x => x.toUInt8)) w := by rw [cells_u8 l hl]; exact h
  exact Tryd.Builder_String_any b b _ w h' (Nat.le_of_lt h.lt)
end Go.Proofs.YtjhjolnflkekoaaDoor
