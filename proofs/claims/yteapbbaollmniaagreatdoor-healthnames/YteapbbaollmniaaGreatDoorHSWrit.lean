/- The contract of written: a shard's bytes. -/
import Derived.Test.YteapbbaollmniaaGreatDoorHSName
namespace Go.Proofs.YteapbbaollmniaaGreatDoor.H
open Go.RowKit
theorem digest_lt (l : List Nat) : ∀ x ∈ Sha.digest l, x < 256 := Sha.tells_lt _
theorem digest_length (l : List Nat) : (Sha.digest l).length = 32 := by
  unfold Sha.digest Sha.tell; rw [Sha.tells_length]; rfl
/-- a number in 4 bytes -/
def be4 (n : Nat) : List Nat := [n / 16777216 % 256, n / 65536 % 256, n / 256 % 256, n % 256]
/-- a shard's bytes but for the last digest -/
def pre (K N i : Nat) (d p : List Nat) : List Nat := [115, 104, 100, 49] ++ [K, N, i] ++ be4 p.length ++ d ++ p
/-- a shard's bytes -/
def dat (K N i : Nat) (d p : List Nat) : List Nat := pre K N i d p ++ Sha.digest (pre K N i d p)
/-- a shard, as cells -/
def shc (K N : Int) (d : ByteArray) (i : Int) (p : ByteArray) : Array Value := #[.int .i64 K, .int .i64 N, .string d, .int .i64 i, .string p]
theorem strCells_bs (s : ByteArray) : Lib.strCells s = (U8s (bs s)).toList := by
  simp [Lib.strCells, U8s, bs]
theorem puts_any (b : Nat) (l : List Nat) (s : ByteArray) (w : World) (h : Holds b l w) (hl : l.length + s.size ≤ 100000000000000) :
    Calls Tryz.prog 135 #[.pointer (some ⟨b, 0, none⟩), .string s] w fun e w' => e = .returned (.tuple #[.int .i64 s.size, .nilIface]) ∧ Holds b (l ++ bs s) w' ∧ Below b w w' := by
  refine (Tryz.Builder_WriteString b b _ s w h (by rw [Array.length_toList, U8s_size]; omega) (Nat.le_of_lt h.lt)).mono ?_
  rintro e w' ⟨rfl, h1, h2⟩
  refine ⟨rfl, Or.inr ?_, h2⟩
  rw [strCells_bs] at h1
  have e : (U8s l).toList ++ (U8s (bs s)).toList = (U8s (l ++ bs s)).toList := by simp [U8s]
  rw [← e]; exact h1
/-- a builder of which String was asked -/
def HoldsF (b : Nat) (l : List Nat) (w : World) : Prop := Lib.IsBuilderF 216 5 b b (U8s l).toList w
theorem HoldsF.lt {b : Nat} {l : List Nat} {w : World} (h : HoldsF b l w) : b < w.heap.size := h.elim (fun x => x.lt) (fun x => x.lt)
theorem HoldsF.below {b : Nat} {l : List Nat} {w W : World} (h : HoldsF b l w) (hb : Below w.heap.size w W) : HoldsF b l W := by
  have key : ∀ {q : Value}, Lib.BuilderAtF 216 5 b b q (U8s l).toList w → Lib.BuilderAtF 216 5 b b q (U8s l).toList W := by
    intro q hq
    have hlt := hq.lt
    obtain ⟨h1, v, h2, h3, h4⟩ := hq
    refine ⟨h1, v, by rw [hb.block b hlt]; exact h2, h3.kept (row := none) ⟨hb.os, hb.tape, hb.output, hb.size, fun k hk _ => hb.block k hk⟩ ?_, h4⟩
    cases v.ownBlock with
    | none => exact .inl rfl
    | some k => exact .inr (by simp)
  exact h.elim (fun x => .inl (key x)) (fun x => .inr (key x))
theorem tellF_any (b : Nat) (l : List Nat) (w : World) (h : HoldsF b l w) (hl : ∀ x ∈ l, x < 256) :
    Calls Tryz.prog 137 #[.pointer (some ⟨b, 0, none⟩)] w fun e w' => e = .returned (.string (ofBs l)) ∧ HoldsF b l w' ∧ Below b w w' := by
  have h' : Lib.IsBuilderF 216 5 b b (Lib.byteCells (l.map fun x => x.toUInt8)) w := by rw [cells_u8 l hl]; exact h
  refine (Tryz.Builder_String_any_f b b _ w h' (Nat.le_of_lt h.lt)).mono ?_
  rintro e w' ⟨rfl, h1, h2⟩
  refine ⟨rfl, ?_, h2⟩
  unfold HoldsF
  rw [← cells_u8 l hl]; exact h1
theorem putsF_any (b : Nat) (l : List Nat) (s : ByteArray) (w : World) (h : HoldsF b l w) (hl : l.length + s.size ≤ 100000000000000) :
    Calls Tryz.prog 135 #[.pointer (some ⟨b, 0, none⟩), .string s] w fun e w' => e = .returned (.tuple #[.int .i64 s.size, .nilIface]) ∧ HoldsF b (l ++ bs s) w' ∧ Below b w w' := by
  refine (Tryz.Builder_WriteString_f b b _ s w h (by rw [Array.length_toList, U8s_size]; omega) (Nat.le_of_lt h.lt)).mono ?_
  rintro e w' ⟨rfl, h1, h2⟩
  refine ⟨rfl, Or.inr ?_, h2⟩
  rw [strCells_bs] at h1
  have e : (U8s l).toList ++ (U8s (bs s)).toList = (U8s (l ++ bs s)).toList := by simp [U8s]
  rw [← e]; exact h1
/-- the memory of written: the shard, and a builder behind it -/
structure WrW (c : Array Value) (l : List Nat) (w W : World) : Prop where
  hb : Holds (w.heap.size + 1) l W
  hs : Has W w.heap.size c 105
  bl : Below w.heap.size w W
theorem WrW.next {c : Array Value} {l l' : List Nat} {w W W' : World} (h : WrW c l w W) (h' : Holds (w.heap.size + 1) l' W') (hb : Below (w.heap.size + 1) W W') : WrW c l' w W' :=
  ⟨h', h.hs.below hb (Nat.lt_succ_self _), h.bl.trans (hb.mono (Nat.le_succ _))⟩
theorem shc_cells {W : World} {b : Nat} {K N : Int} {d : ByteArray} {i : Int} {p : ByteArray} {t : TypeId} (h : Has W b (shc K N d i p) t) :
    W.cell? ⟨b, 0, none⟩ = some (.int .i64 K) ∧ W.cell? ⟨b, 1, none⟩ = some (.int .i64 N) ∧ W.cell? ⟨b, 2, none⟩ = some (.string d) ∧ W.cell? ⟨b, 3, none⟩ = some (.int .i64 i) ∧ W.cell? ⟨b, 4, none⟩ = some (.string p) :=
  ⟨h.cell 0, h.cell 1, h.cell 2, h.cell 3, h.cell 4⟩
set_option maxRecDepth 20000 in
theorem arr3_0 (a b c : Int) (w : World) : (Instr.index 222 (.agg #[.int .i64 a, .int .i64 b, .int .i64 c]) (.int .i64 0)).run Tryz.prog w = .ok (.int .i64 a) w := by rfl
set_option maxRecDepth 20000 in
theorem arr3_1 (a b c : Int) (w : World) : (Instr.index 222 (.agg #[.int .i64 a, .int .i64 b, .int .i64 c]) (.int .i64 1)).run Tryz.prog w = .ok (.int .i64 b) w := by rfl
set_option maxRecDepth 20000 in
theorem arr3_2 (a b c : Int) (w : World) : (Instr.index 222 (.agg #[.int .i64 a, .int .i64 b, .int .i64 c]) (.int .i64 2)).run Tryz.prog w = .ok (.int .i64 c) w := by rfl
set_option maxRecDepth 20000 in
set_option maxHeartbeats 1000000 in
theorem written_any (K N i : Nat) (d p : ByteArray) (hK : K < 256) (hN : N < 256) (hi : i < 256) (hd : d.size ≤ 1000) (hp : p.size ≤ 65536) (w : World) (hl : Lay w) :
    Calls Tryz.prog 86 #[.agg (shc K N d i p)] w fun e w' => e = .returned (.string (ofBs (dat K N i (bs d) (bs p)))) ∧ Below w.heap.size w w' := by
  have k1 : (K : Int) < 256 := by omega
  have k2 : (N : Int) < 256 := by omega
  have k3 : (i : Int) < 256 := by omega
  have q0 : (75 : Int) + (p.size : Int) ≤ 70000 := by omega
  unfold shc
  go_enter Tryz.func86, Tryz.ntmps86
  go_wp2_with fail
  have hb0 : Below w.heap.size w (w.alloc (.cells (shc K N d i p) 105)) := (Below.refl _ _).alloc (Nat.le_refl _) _
  have hs0 : Has (w.alloc (.cells (shc K N d i p) 105)) w.heap.size (shc K N d i p) 105 := Has.new _ _ _ _ rfl
  refine (room_any (w.heap.size + 1) (75 + p.size) _ _ (by simp) (Has.new _ _ _ 216 (by simp)) (by omega)).mono ?_
  rintro e w1 ⟨rfl, h1, b1⟩
  have W1 : WrW (shc K N d i p) [] w w1 := ⟨h1, (hs0.alloc _).below b1 (Nat.lt_succ_self _), ((belowAlloc hb0 _).trans (b1.mono (Nat.le_succ _)))⟩
  clear h1 b1 hb0 hs0
  go_wp2_with fail
  refine (puts_any _ _ _ _ W1.hb (by show 0 + 4 ≤ _; omega)).mono ?_
  rintro e w2 ⟨rfl, h2, b2⟩
  have W2 : WrW (shc K N d i p) [115, 104, 100, 49] w w2 := W1.next h2 b2
  clear h2 b2 W1
  obtain ⟨c0, c1, c2, c3, c4⟩ := shc_cells W2.hs
  go_wp2_with fail
  go_loopw [22] (fun v wr => ∃ k : Nat, k ≤ 3 ∧ v = .int .i64 (k : Int) ∧ WrW (shc K N d i p) ([115, 104, 100, 49] ++ [K, N, i].take k) w wr) (fun v _ => 3 - (intOf v).toNat)
  case atStart => exact ⟨0, by omega, rfl, W2⟩
  case round =>
    clear W2 c0 c1 c2 c3 c4
    obtain ⟨k, hk, rfl, W3⟩ := hrel
    by_cases hlt : k < 3
    · have : k = 0 ∨ k = 1 ∨ k = 2 := by omega
      rcases this with rfl | rfl | rfl
      · have ix := arr3_0 (K : Int) (N : Int) (i : Int)
        go_wp2_with fail
        refine (write_any _ _ _ K _ rfl W3.hb (by simp)).mono ?_
        rintro e w4 ⟨rfl, h4, b4⟩
        have W4 := W3.next h4 b4
        go_wp2_with fail
        exact ⟨⟨1, by omega, rfl, W4⟩, by simp [intOf]⟩
      · have ix := arr3_1 (K : Int) (N : Int) (i : Int)
        go_wp2_with fail
        refine (write_any _ _ _ N _ rfl W3.hb (by simp)).mono ?_
        rintro e w4 ⟨rfl, h4, b4⟩
        have W4 := W3.next h4 b4
        go_wp2_with fail
        exact ⟨⟨2, by omega, rfl, W4⟩, by simp [intOf]⟩
      · have ix := arr3_2 (K : Int) (N : Int) (i : Int)
        go_wp2_with fail
        refine (write_any _ _ _ i _ rfl W3.hb (by simp)).mono ?_
        rintro e w4 ⟨rfl, h4, b4⟩
        have W4 := W3.next h4 b4
        go_wp2_with fail
        exact ⟨⟨3, by omega, rfl, W4⟩, by simp [intOf]⟩
    · obtain rfl : k = 3 := by omega
      have W4 : WrW (shc K N d i p) [115, 104, 100, 49, K, N, i] w wr := W3
      clear W3
      obtain ⟨c0, c1, c2, c3, c4⟩ := shc_cells W4.hs
      go_wp2_with fail
      go_loopw [6] (fun v wr => ∃ k : Nat, k ≤ 4 ∧ v = .int .i64 (3 - (k : Int)) ∧ WrW (shc K N d i p) ([115, 104, 100, 49, K, N, i] ++ (be4 p.size).take k) w wr) (fun v _ => ((intOf v) + 1).toNat)
      case atStart => exact ⟨0, by omega, rfl, W4⟩
      case round =>
        clear W4 c0 c1 c2 c3 c4 hk hlt
        obtain ⟨k, hk, rfl, W5⟩ := hrel
        obtain ⟨c0, c1, c2, c3, c4⟩ := shc_cells W5.hs
        by_cases hlt : k < 4
        · have : k = 0 ∨ k = 1 ∨ k = 2 ∨ k = 3 := by omega
          rcases this with rfl | rfl | rfl | rfl
          · go_wp2_with fail
            refine (write_any _ _ _ (p.size / 16777216 % 256) _ (by omega) W5.hb (by simp)).mono ?_
            rintro e w6 ⟨rfl, h6, b6⟩
            have W6 := W5.next h6 b6
            go_wp2_with fail
            go_roundw
            case rel =>
              (repeat apply Exists.intro)
              refine ⟨?_, rfl⟩
              exact ⟨1, by omega, rfl, W6⟩
            case measure => simp [intOf]
          · go_wp2_with fail
            refine (write_any _ _ _ (p.size / 65536 % 256) _ (by omega) W5.hb (by simp [be4])).mono ?_
            rintro e w6 ⟨rfl, h6, b6⟩
            have W6 := W5.next h6 b6
            go_wp2_with fail
            go_roundw
            case rel =>
              (repeat apply Exists.intro)
              refine ⟨?_, rfl⟩
              exact ⟨2, by omega, rfl, W6⟩
            case measure => simp [intOf]
          · go_wp2_with fail
            refine (write_any _ _ _ (p.size / 256 % 256) _ (by omega) W5.hb (by simp [be4])).mono ?_
            rintro e w6 ⟨rfl, h6, b6⟩
            have W6 := W5.next h6 b6
            go_wp2_with fail
            go_roundw
            case rel =>
              (repeat apply Exists.intro)
              refine ⟨?_, rfl⟩
              exact ⟨3, by omega, rfl, W6⟩
            case measure => simp [intOf]
          · go_wp2_with fail
            refine (write_any _ _ _ (p.size % 256) _ (by omega) W5.hb (by simp [be4])).mono ?_
            rintro e w6 ⟨rfl, h6, b6⟩
            have W6 := W5.next h6 b6
            go_wp2_with fail
            go_roundw
            case rel =>
              (repeat apply Exists.intro)
              refine ⟨?_, rfl⟩
              exact ⟨4, by omega, rfl, W6⟩
            case measure => simp [intOf]
        · obtain rfl : k = 4 := by omega
          have W6 : WrW (shc K N d i p) ([115, 104, 100, 49, K, N, i] ++ be4 p.size) w wr := W5
          clear W5
          go_wp2_with fail
          refine (puts_any _ _ d _ W6.hb (by show 11 + d.size ≤ _; omega)).mono ?_
          rintro e w7 ⟨rfl, h7, b7⟩
          have W7 := W6.next h7 b7
          obtain ⟨c0, c1, c2, c3, c4⟩ := shc_cells W7.hs
          clear h7 b7 W6
          go_wp2_with fail
          refine (puts_any _ _ p _ W7.hb (by simp [be4, bs_length]; omega)).mono ?_
          rintro e w8 ⟨rfl, h8, b8⟩
          have W8 := W7.next h8 b8
          clear h8 b8 W7 c0 c1 c2 c3 c4
          have hpre : [115, 104, 100, 49, K, N, i] ++ be4 p.size ++ bs d ++ bs p = pre K N i (bs d) (bs p) := by
            unfold pre; rw [bs_length]; rfl
          rw [hpre] at W8
          have hlen : (pre K N i (bs d) (bs p)).length = 11 + d.size + p.size := by
            unfold pre be4; simp [bs_length]; omega
          have hlt8 : ∀ x ∈ pre K N i (bs d) (bs p), x < 256 := by
            intro x hx
            unfold pre be4 at hx
            simp only [List.mem_append, List.mem_cons, List.not_mem_nil, or_false] at hx
            rcases hx with (((hx | hx) | hx) | hx) | hx
            · omega
            · omega
            · omega
            · exact bs_lt d x hx
            · exact bs_lt p x hx
          have HD : Hid (ofBs (dat K N i (bs d) (bs p)) = ofBs (pre K N i (bs d) (bs p) ++ Sha.digest (pre K N i (bs d) (bs p)))) := rfl
          clear hpre
          generalize pre K N i (bs d) (bs p) = P at *
          go_wp2_with fail
          have F8 : HoldsF (w.heap.size + 1) P w8 := Lib.IsBuilderF.of W8.hb
          refine (tellF_any _ P _ F8 hlt8).mono ?_
          rintro e w9 ⟨rfl, h9, b9⟩
          have B9 := W8.bl.trans (b9.mono (Nat.le_succ _))
          have l9 := hl.below B9
          clear F8 W8 b9
          go_wp2_with fail
          refine (sum_any w9 l9.ht (ofBs P) (by rw [ofBs_size]; omega)).mono ?_
          rintro e wa ⟨rfl, ba⟩
          have Fa : HoldsF (w.heap.size + 1) P wa := h9.below ba
          have Ba := belowCall B9 ba
          rw [bs_ofBs P hlt8]
          have hdl : (ofBs (Sha.digest P)).size = 32 := by rw [ofBs_size, digest_length]
          have hdb : bs (ofBs (Sha.digest P)) = Sha.digest P := bs_ofBs _ (digest_lt P)
          clear B9 l9 h9 ba
          go_wp2_with fail
          refine (putsF_any _ P (ofBs (Sha.digest P)) wa Fa (by omega)).mono ?_
          rintro e wb ⟨rfl, hb, bb⟩
          rw [hdb] at hb
          have Bb := Ba.trans (bb.mono (Nat.le_succ _))
          clear Fa Ba bb
          go_wp2_with fail
          refine (tellF_any _ _ wb hb (fun x hx => ?_)).mono ?_
          · rcases List.mem_append.1 hx with hx | hx
            · exact hlt8 x hx
            · exact digest_lt P x hx
          rintro e wc ⟨rfl, hc, bc⟩
          have Bc := Bb.trans (bc.mono (Nat.le_succ _))
          clear Bb bc hc hb
          go_wp2_with fail
          go_ret
          exact ⟨by rw [HD.out]; rfl, Bc⟩
end Go.Proofs.YteapbbaollmniaaGreatDoor.H
