/- The contract of Add: the bytes are added; of what was there nothing but the hash changes. -/
import Derived.Test.YtmpgfpmkmgebdaaGreatDoorFHash
import Derived.Deep.RegionWith
import Derived.Deep.RegionHeld3
import Derived.Test.YtmpgfpmkmgebdaaGreatDoorFTurn
import Derived.Deep.Light
import Derived.KernelRfl
import Derived.Deep.QuietTactic
import Derived.BigQuiet
import Derived.Laws.MakeOwn
import Derived.Laws.BytesString
import Derived.Lib.ItoaLen
import Derived.Lib.AppendIntMem
namespace Go.Proofs.YtmpgfpmkmgebdaaGreatDoor.F
open Go.RowKit
theorem feed_lit (s : Sha.S8) (hs : s.ok) (rv : Value) (l : List Nat) (hl : l.length < 64) (hlb : ∀ x ∈ l, x < 256) (str : ByteArray) (hstr : str.size ≤ 1000000000000) (w : World) (ht : Tabs w) (hv : IsBytes w rv l) :
    Calls Tryz.prog 128 #[.agg #[.int .u32 (s.a : Int), .int .u32 (s.b : Int), .int .u32 (s.c : Int), .int .u32 (s.d : Int), .int .u32 (s.e : Int), .int .u32 (s.f : Int), .int .u32 (s.g : Int), .int .u32 (s.h : Int)], rv, .string str] w fun e w' => ∃ (nb : Nat) (cs : List Nat) (m : Sha.S8) (k : Nat),
      e = .returned (.tuple #[.agg #[.int .u32 (m.a : Int), .int .u32 (m.b : Int), .int .u32 (m.c : Int), .int .u32 (m.d : Int), .int .u32 (m.e : Int), .int .u32 (m.f : Int), .int .u32 (m.g : Int), .int .u32 (m.h : Int)], .slice (some ⟨nb, 0, none⟩) k k]) ∧ Hid (m = Sha.eat s (l ++ bs str)) ∧ Hid (k = (Sha.left (l ++ bs str)).length)
      ∧ w.heap.size ≤ nb ∧ Has w' nb (U8s cs) 214 ∧ Hid (k ≤ cs.length) ∧ Hid (cs.take k = Sha.left (l ++ bs str)) ∧ Below w.heap.size w w' := by
  refine (feed_any s hs rv l hl hlb str hstr w ht hv).mono ?_
  rintro e w' ⟨nb, cs, rfl, h1, h2, h3, h4, h5⟩
  exact ⟨nb, cs, _, _, rfl, rfl, rfl, h1, h2, h3, h4, h5⟩
theorem Has.eqv {w : World} {b : Nat} {cs cs' : Array Value} {t : TypeId} (h : Has w b cs t) (e : cs = cs') : Has w b cs' t := e ▸ h
set_option maxRecDepth 20000 in
set_option maxHeartbeats 1000000 in
theorem add_any (w : World) (ht : Tabs w) (b : Nat) (l : List Nat) (hlb : ∀ x ∈ l, x < 256) (h : IsHash w b l) (s : ByteArray) (hs : l.length + s.size ≤ 1000000000000) :
    Calls Tryz.prog 113 #[.pointer (some ⟨b, 0, none⟩), .string s] w fun e w' => e = .returned (.int .i64 0) ∧ IsHash w' b (l ++ bs s) ∧ Only b w w' := by
  obtain ⟨rv, h1, h2⟩ := h
  have hfe : Hid (∀ W, Tabs W → IsBytes W rv (Sha.left l) → _) := fun W hT hv => feed_lit (Sha.eat Sha.init l) (Sha.eat_ok _ _ Sha.init_ok) rv (Sha.left l) (by rw [Sha.left_length]; omega) (Sha.left_lt _ hlb) s (by omega) W hT hv
  have hea : Hid (Sha.eat (Sha.eat Sha.init l) (Sha.left l ++ bs s) = Sha.eat Sha.init (l ++ bs s)) := Sha.eat_app _ _ _
  have hle : Hid (Sha.left (Sha.left l ++ bs s) = Sha.left (l ++ bs s)) := Sha.left_app _ _
  have c0 : w.cell? ⟨b, 0, none⟩ = some (.int .u32 ((Sha.eat Sha.init l).a : Int)) := h1.cell 0
  have c1 : w.cell? ⟨b, 1, none⟩ = some (.int .u32 ((Sha.eat Sha.init l).b : Int)) := h1.cell 1
  have c2 : w.cell? ⟨b, 2, none⟩ = some (.int .u32 ((Sha.eat Sha.init l).c : Int)) := h1.cell 2
  have c3 : w.cell? ⟨b, 3, none⟩ = some (.int .u32 ((Sha.eat Sha.init l).d : Int)) := h1.cell 3
  have c4 : w.cell? ⟨b, 4, none⟩ = some (.int .u32 ((Sha.eat Sha.init l).e : Int)) := h1.cell 4
  have c5 : w.cell? ⟨b, 5, none⟩ = some (.int .u32 ((Sha.eat Sha.init l).f : Int)) := h1.cell 5
  have c6 : w.cell? ⟨b, 6, none⟩ = some (.int .u32 ((Sha.eat Sha.init l).g : Int)) := h1.cell 6
  have c7 : w.cell? ⟨b, 7, none⟩ = some (.int .u32 ((Sha.eat Sha.init l).h : Int)) := h1.cell 7
  have c8 : w.cell? ⟨b, 8, none⟩ = some rv := h1.cell 8
  have c9 : w.cell? ⟨b, 9, none⟩ = some (.int .i64 (l.length : Int)) := h1.cell 9
  generalize Sha.eat Sha.init l = t at *
  go_enter Tryz.func113, Tryz.ntmps113
  go_wp2
  go_region_with (go_at_call 128; refine (hfe.out _ (by exact ⟨ht.sq, ht.cu⟩) (by exact h2)).mono ?_; rintro e w1 ⟨nb, cs, m, k, rfl, hm, hk, hnb, hnh, hkc, hck, hbl⟩; have q : Has w1 b _ 196 := h1.drew.below hbl h1.drew.lt; have d0 : w1.cell? ⟨b, 0, none⟩ = some (.int .u32 (t.a : Int)) := q.cell 0; have d1 : w1.cell? ⟨b, 1, none⟩ = some (.int .u32 (t.b : Int)) := q.cell 1; have d2 : w1.cell? ⟨b, 2, none⟩ = some (.int .u32 (t.c : Int)) := q.cell 2; have d3 : w1.cell? ⟨b, 3, none⟩ = some (.int .u32 (t.d : Int)) := q.cell 3; have d4 : w1.cell? ⟨b, 4, none⟩ = some (.int .u32 (t.e : Int)) := q.cell 4; have d5 : w1.cell? ⟨b, 5, none⟩ = some (.int .u32 (t.f : Int)) := q.cell 5; have d6 : w1.cell? ⟨b, 6, none⟩ = some (.int .u32 (t.g : Int)) := q.cell 6; have d7 : w1.cell? ⟨b, 7, none⟩ = some (.int .u32 (t.h : Int)) := q.cell 7; have d8 : w1.cell? ⟨b, 8, none⟩ = some rv := q.cell 8; have d9 : w1.cell? ⟨b, 9, none⟩ = some (.int .i64 (l.length : Int)) := q.cell 9; have f0 := q.frozen 0; have f1 := q.frozen 1; have f2 := q.frozen 2; have f3 := q.frozen 3; have f4 := q.frozen 4; have f5 := q.frozen 5; have f6 := q.frozen 6; have f7 := q.frozen 7; have f8 := q.frozen 8; have f9 := q.frozen 9)
  all_goals go_wp2
  all_goals go_light
  all_goals go_ret
  all_goals
    have hbw : b < w.heap.size := h1.lt
    have hnb' : w.heap.size ≤ nb := hnb
    have hm' : m = Sha.eat Sha.init (l ++ bs s) := hm.out.trans hea.out
    have hk' : k = (Sha.left (l ++ bs s)).length := by rw [hk.out, hle.out]
    have hck' : cs.take k = Sha.left (l ++ bs s) := by rw [hck.out, hle.out]
    refine ⟨rfl, ⟨.slice (some ⟨nb, 0, none⟩) k k, Has.eqv ((((((((((q.set 0 _).set 1 _).set 2 _).set 3 _).set 4 _).set 5 _).set 6 _).set 7 _).set 8 _).set 9 _) ?_, ⟨some ⟨nb, 0, none⟩, by rw [hk'], fun _ => ⟨nb, cs, 214, rfl, ?_, by rw [← hk']; exact hkc.out, by rw [← hk']; exact hck', by decide⟩⟩⟩, ?_⟩
    · rw [← hm', List.length_append, bs_length]
      simp [hashCells]
    · iterate 10 refine Has.other ?_ _ _ (show nb ≠ b by omega)
      exact hnh
    · iterate 10 apply Only.setCell
      exact Only.of_below (w := w) ⟨hbl.os, hbl.tape, hbl.output, hbl.size, hbl.block⟩
end Go.Proofs.YtmpgfpmkmgebdaaGreatDoor.F
/- The contract of a hash's Sum: the digest of all that was added; of what was there nothing changes. -/
namespace Go.Proofs.YtmpgfpmkmgebdaaGreatDoor.F
open Go.RowKit
theorem belowCall {w W W' : World} (h : Below w.heap.size w W) (hb : Below W.heap.size W W') : Below w.heap.size w W' := h.trans (hb.mono h.size)
theorem belowAlloc {w W : World} (h : Below w.heap.size w W) (o : Obj) : Below w.heap.size w (W.alloc o) := h.alloc h.size o
theorem belowSet {w W : World} (h : Below w.heap.size w W) (k i : Nat) (v : Value) (hk : w.heap.size ≤ k) : Below w.heap.size w (W.setCell ⟨k, i, none⟩ v) := h.setCell hk v
theorem Tabs.below' {w W : World} (h : Tabs w) (hb : Below w.heap.size w W) : Tabs W := ⟨h.sq.below hb h.sq.lt, h.cu.below hb h.cu.lt⟩
theorem hashAll {w : World} {b : Nat} {t : Sha.S8} {rv : Value} {n : Nat} {W : World} (h : Has w b (hashCells t rv n) 196) (hb : Below w.heap.size w W) :
    Below w.heap.size w W ∧ W.cell? ⟨b, 0, none⟩ = some (.int .u32 (t.a : Int)) ∧ W.cell? ⟨b, 1, none⟩ = some (.int .u32 (t.b : Int)) ∧ W.cell? ⟨b, 2, none⟩ = some (.int .u32 (t.c : Int)) ∧ W.cell? ⟨b, 3, none⟩ = some (.int .u32 (t.d : Int)) ∧ W.cell? ⟨b, 4, none⟩ = some (.int .u32 (t.e : Int)) ∧ W.cell? ⟨b, 5, none⟩ = some (.int .u32 (t.f : Int)) ∧ W.cell? ⟨b, 6, none⟩ = some (.int .u32 (t.g : Int)) ∧ W.cell? ⟨b, 7, none⟩ = some (.int .u32 (t.h : Int)) ∧ W.cell? ⟨b, 8, none⟩ = some rv ∧ W.cell? ⟨b, 9, none⟩ = some (.int .i64 (n : Int)) := by
  have h := h.below hb h.lt
  exact ⟨hb, h.cell 0, h.cell 1, h.cell 2, h.cell 3, h.cell 4, h.cell 5, h.cell 6, h.cell 7, h.cell 8, h.cell 9⟩
set_option maxRecDepth 20000 in
set_option maxHeartbeats 1000000 in
theorem hashSum_any (w : World) (ht : Tabs w) (b : Nat) (l : List Nat) (hlb : ∀ x ∈ l, x < 256) (h : IsHash w b l) (hs : l.length ≤ 900000000000) :
    Calls Tryz.prog 114 #[.pointer (some ⟨b, 0, none⟩)] w fun e w' => e = .returned (.string (ofBs (Sha.digest l))) ∧ Below w.heap.size w w' := by
  obtain ⟨rv, h1, h2⟩ := h
  have hlen : (ofBs (Sha.ending l.length)).size ≤ 1000000000000 := by
    rw [ofBs_size]; simp [Sha.ending, Sha.be8]; have := Sha.noughts_lt l.length; omega
  have hfe : Hid (∀ W, Tabs W → IsBytes W rv (Sha.left l) → _) := fun W hT hv => feed_lit (Sha.eat Sha.init l) (Sha.eat_ok _ _ Sha.init_ok) rv (Sha.left l) (by rw [Sha.left_length]; omega) (Sha.left_lt _ hlb) (ofBs (Sha.ending l.length)) hlen W hT hv
  have hen : Hid (∀ W, _) := fun W => ending_any l.length (by omega) W
  have hdi : Hid (∀ m, m = Sha.eat (Sha.eat Sha.init l) (Sha.left l ++ bs (ofBs (Sha.ending l.length))) → Sha.tell m = Sha.digest l ∧ m.ok) := by
    intro m hm
    rw [bs_ofBs _ (Sha.ending_lt _), Sha.eat_app] at hm
    subst hm
    exact ⟨rfl, Sha.eat_ok _ _ Sha.init_ok⟩
  clear hlen
  generalize Sha.eat Sha.init l = t at *
  go_enter Tryz.func114, Tryz.ntmps114
  go_wp2
  go_region_held3 (fun W => Below w.heap.size w W ∧ W.cell? ⟨b, 0, none⟩ = some (.int .u32 (t.a : Int)) ∧ W.cell? ⟨b, 1, none⟩ = some (.int .u32 (t.b : Int)) ∧ W.cell? ⟨b, 2, none⟩ = some (.int .u32 (t.c : Int)) ∧ W.cell? ⟨b, 3, none⟩ = some (.int .u32 (t.d : Int)) ∧ W.cell? ⟨b, 4, none⟩ = some (.int .u32 (t.e : Int)) ∧ W.cell? ⟨b, 5, none⟩ = some (.int .u32 (t.f : Int)) ∧ W.cell? ⟨b, 6, none⟩ = some (.int .u32 (t.g : Int)) ∧ W.cell? ⟨b, 7, none⟩ = some (.int .u32 (t.h : Int)) ∧ W.cell? ⟨b, 8, none⟩ = some rv ∧ W.cell? ⟨b, 9, none⟩ = some (.int .i64 (l.length : Int))) ((refine hashAll h1 ?_; first | (iterate 8 (refine belowSet ?_ _ _ _ (by omega))); exact hB2 | exact Below.drew (Below.refl _ _) | exact hB1 | exact hB2 | exact belowAlloc hB2 _ | exact belowAlloc hB1 _ | exact Below.drew (belowAlloc (Below.refl _ _) _))) (first
    | (go_at_call 129; refine (hen.out _).mono ?_; rintro e w1 ⟨rfl, hb1⟩; have hB1 : Below w.heap.size w w1 := belowCall (And.left (by assumption)) hb1; have hz1 := hB1.size; try (have qd := fun i => hb1.cell (p := ⟨w.heap.size, i, none⟩) (by simp); have qf := fun i => hb1.frozen (p := ⟨w.heap.size, i, none⟩) (by simp); have d0 := qd 0; simp at d0; have f0 := qf 0; simp at f0; have d1 := qd 1; simp at d1; have f1 := qf 1; simp at f1; have d2 := qd 2; simp at d2; have f2 := qf 2; simp at f2; have d3 := qd 3; simp at d3; have f3 := qf 3; simp at f3; have d4 := qd 4; simp at d4; have f4 := qf 4; simp at f4; have d5 := qd 5; simp at d5; have f5 := qf 5; simp at f5; have d6 := qd 6; simp at d6; have f6 := qf 6; simp at f6; have d7 := qd 7; simp at d7; have f7 := qf 7; simp at f7; clear qd qf; have hq : w.heap.size < w1.heap.size := (by have := hb1.size; simp at this; omega)))
    | (go_at_call 128; refine (hfe.out _ (ht.below' (And.left (by assumption))) (h2.below (And.left (by assumption)))).mono ?_; rintro e w2 ⟨nb, cs, m, k, rfl, hm, hk, hnb, hnh, hkc, hck, hb2⟩; have hB2 : Below w.heap.size w w2 := belowCall (And.left (by assumption)) hb2; have hz2 := hB2.size; try (first | (have e0 := (hb2.cell (p := ⟨w.heap.size, 0, none⟩) hq).trans d0; have g0 := (hb2.frozen (p := ⟨w.heap.size, 0, none⟩) hq).trans f0; have e1 := (hb2.cell (p := ⟨w.heap.size, 1, none⟩) hq).trans d1; have g1 := (hb2.frozen (p := ⟨w.heap.size, 1, none⟩) hq).trans f1; have e2 := (hb2.cell (p := ⟨w.heap.size, 2, none⟩) hq).trans d2; have g2 := (hb2.frozen (p := ⟨w.heap.size, 2, none⟩) hq).trans f2; have e3 := (hb2.cell (p := ⟨w.heap.size, 3, none⟩) hq).trans d3; have g3 := (hb2.frozen (p := ⟨w.heap.size, 3, none⟩) hq).trans f3; have e4 := (hb2.cell (p := ⟨w.heap.size, 4, none⟩) hq).trans d4; have g4 := (hb2.frozen (p := ⟨w.heap.size, 4, none⟩) hq).trans f4; have e5 := (hb2.cell (p := ⟨w.heap.size, 5, none⟩) hq).trans d5; have g5 := (hb2.frozen (p := ⟨w.heap.size, 5, none⟩) hq).trans f5; have e6 := (hb2.cell (p := ⟨w.heap.size, 6, none⟩) hq).trans d6; have g6 := (hb2.frozen (p := ⟨w.heap.size, 6, none⟩) hq).trans f6; have e7 := (hb2.cell (p := ⟨w.heap.size, 7, none⟩) hq).trans d7; have g7 := (hb2.frozen (p := ⟨w.heap.size, 7, none⟩) hq).trans f7) | (have qd := fun i => hb2.cell (p := ⟨w1.heap.size, i, none⟩) (by simp); have qf := fun i => hb2.frozen (p := ⟨w1.heap.size, i, none⟩) (by simp); have d0 := qd 0; simp at d0; have f0 := qf 0; simp at f0; have d1 := qd 1; simp at d1; have f1 := qf 1; simp at f1; have d2 := qd 2; simp at d2; have f2 := qf 2; simp at f2; have d3 := qd 3; simp at d3; have f3 := qf 3; simp at f3; have d4 := qd 4; simp at d4; have f4 := qf 4; simp at f4; have d5 := qd 5; simp at d5; have f5 := qf 5; simp at f5; have d6 := qd 6; simp at d6; have f6 := qf 6; simp at f6; have d7 := qd 7; simp at d7; have f7 := qf 7; simp at f7; clear qd qf))))
  all_goals
    have hm2 := hdi.out m hm.out
    have hmk := hm2.2
    have Hd : Hid (Sha.tell m = Sha.digest l) := hm2.1
    clear hm2
    have hT : Hid (∀ W, _) := fun W => tellNumbers_any m hmk W
    go_wp2_with (go_at_call 130; refine (hT.out _).mono ?_; rintro e w3 ⟨rfl, hb3⟩)
    go_light
    go_ret
    refine ⟨by show Ending.returned (.string (ofBs (Sha.tell m))) = _; rw [Hd.out], ?_⟩
    exact belowCall (And.left (by assumption)) hb3
end Go.Proofs.YtmpgfpmkmgebdaaGreatDoor.F
/- The contracts of Sum of bytes, and of a nil hash's Sum. -/
namespace Go.Proofs.YtmpgfpmkmgebdaaGreatDoor.F
open Go.RowKit
theorem sum_any (w : World) (ht : Tabs w) (s : ByteArray) (hs : s.size ≤ 900000000000) : Calls Tryz.prog 95 #[.string s] w fun e w' => e = .returned (.string (ofBs (Sha.digest (bs s)))) ∧ Below w.heap.size w w' := by
  go_enter Tryz.func95, Tryz.ntmps95
  go_wp2_with fail
  refine (new_any w ht).mono ?_
  rintro e w1 ⟨rfl, h1, b1⟩
  go_wp2_with fail
  refine (add_any w1 (ht.below' b1) w.heap.size [] (by simp) h1 s (by simp; omega)).mono ?_
  rintro e w2 ⟨rfl, h2, o2⟩
  have hlt := ht.cu.lt
  have hlt1 := h1.lt
  rw [List.nil_append] at h2
  go_wp2_with fail
  refine (hashSum_any w2 ((ht.below' b1).only o2 hlt) w.heap.size (bs s) (bs_lt s) h2 (by rw [bs_length]; omega)).mono ?_
  rintro e w3 ⟨rfl, b3⟩
  go_wp2_with fail
  go_ret
  exact ⟨rfl, belowCall (b1.trans (o2.below (Nat.le_refl _) (by omega))) b3⟩
end Go.Proofs.YtmpgfpmkmgebdaaGreatDoor.F
/- The contract of Hex; of what was there nothing changes. -/
namespace Go.Proofs.YtmpgfpmkmgebdaaGreatDoor.F
open Go.RowKit
namespace Sha
end Sha
end Go.Proofs.YtmpgfpmkmgebdaaGreatDoor.F
/- The contract of Unhex; of what was there nothing changes. -/
namespace Go.Proofs.YtmpgfpmkmgebdaaGreatDoor.F
open Go.RowKit
namespace Sha
end Sha
theorem bs_getD (s : ByteArray) (k : Nat) (h : k < s.size) : (bs s).getD k 0 = s[k].toNat := by
  rw [List.getD_eq_getElem?_getD, List.getElem?_eq_getElem (by rw [bs_length]; exact h)]
  simp [bs]
  rfl
end Go.Proofs.YtmpgfpmkmgebdaaGreatDoor.F
/- Plain facts: the bytes of a hex of bytes are the bytes, and the hex of a hex's bytes the hex. -/
namespace Go.Proofs.YtmpgfpmkmgebdaaGreatDoor.F
namespace Sha
end Sha
end Go.Proofs.YtmpgfpmkmgebdaaGreatDoor.F
/- The contract of many: a byte, so often. -/
namespace Go.Proofs.YtmpgfpmkmgebdaaGreatDoor.F
open Go.RowKit
theorem fold_push (l : List Nat) (acc : ByteArray) : (l.map fun x : Nat => (x : Int)).foldl (fun r n => r.push (UInt8.ofNat n.toNat)) acc = ⟨acc.data ++ (l.map fun x => x.toUInt8).toArray⟩ := by
  induction l generalizing acc with
  | nil => simp
  | cons x l ih =>
    simp only [List.map_cons, List.foldl_cons, ih, Int.toNat_natCast]
    have : (acc.push (UInt8.ofNat x)).data = acc.data.push (UInt8.ofNat x) := rfl
    rw [this]
    congr 1
    apply Array.toList_inj.1
    simp
theorem conv_str (w : World) (b : Nat) (l : List Nat) (t : TypeId) (c : Nat) (h : Has w b (U8s l) t) :
    (convert 141 9 (.slice (some ⟨b, 0, none⟩) l.length c)).run Tryz.prog w = .ok (.string (ofBs l)) w := by
  rw [run_convert_bytes_string w 141 9 5 _ _ _ Tryz.underlying141 Tryz.underlying5 Tryz.underlying9]
  have hl : (loadCells ⟨b, 0, none⟩ l.length).run Tryz.prog w = .ok ((l.map fun x : Nat => (x : Int)).map (Value.int .u8)).toArray w := by
    have h2 := run_loadCells_list (P := Tryz.prog) w ⟨b, 0, none⟩ (U8s l).toList (fun j v hv => by rw [Addr.add_mid]; exact h.range j v hv)
    rw [Array.length_toList, U8s_size] at h2
    rw [h2]
    simp [U8s]
  rw [run_bytesToString w _ _ _ _ hl, fold_push]
  simp [ofBs]
end Go.Proofs.YtmpgfpmkmgebdaaGreatDoor.F
/- What is laid when a call begins; the contracts of Name, Code and mayIndex. -/
namespace Go.Proofs.YtmpgfpmkmgebdaaGreatDoor.F
open Go.RowKit
/-- what the tables and the errors of the library hold -/
structure Lay (w : World) : Prop where
  ht : Tabs w
  pw : HasC w 1 (Lib.pow10Tab.map fun z => Value.int .u64 z).toArray
theorem Lay.below {w W : World} (h : Lay w) (hb : Below w.heap.size w W) : Lay W :=
  ⟨h.ht.below' hb, h.pw.below hb h.pw.lt⟩
theorem var_of_hasC {w : World} {g : Nat} {name : String} {cs : Array Value} (hg : Tryz.prog.globalNamed name = some g) (h : HasC w g cs) : w.var? Tryz.prog name = some cs := by
  obtain ⟨t, fr, h⟩ := h
  unfold World.var?
  rw [hg]
  simp [h]
theorem gPow : Tryz.prog.globalNamed "internal/strconv.uint64pow10" = some 1 := by kernel_rfl
/-- a number's digits, with a - ahead of one below 0 -/
def dec (n : Int) : List Nat := (Lib.itoa n).map (·.toNat)
theorem dec_str (n : Int) : (⟨(Lib.itoa n).toArray⟩ : ByteArray) = ofBs (dec n) := by
  unfold ofBs dec
  rw [List.map_map]
  congr 2
  symm
  have : List.map ((fun x : Nat => x.toUInt8) ∘ fun x : UInt8 => x.toNat) (Lib.itoa n) = List.map id (Lib.itoa n) := by
    apply List.map_congr_left
    intro x _
    simp [Function.comp]
  rw [this, List.map_id]
theorem ofBs_append (a b : List Nat) : ofBs (a ++ b) = ofBs a ++ ofBs b := by
  unfold ofBs
  apply ByteArray.ext
  rw [ByteArray.data_append]
  simp
theorem itoa_any (n : Int) (h0 : -9223372036854775808 ≤ n) (h1 : n ≤ 9223372036854775807) (w : World) (hl : Lay w) :
    Calls Tryz.prog 77 #[.int .i64 n] w fun e w' => e = .returned (.string (ofBs (dec n))) ∧ Below w.heap.size w w' := by
  refine (Tryz.strconv_Itoa n h0 h1 w (var_of_hasC gPow hl.pw)).mono ?_
  rintro e w' ⟨rfl, k, os, rfl⟩
  rw [dec_str]
  exact ⟨rfl, Lib.below_grow _ _ (Nat.le_refl _) _ _⟩
/-- whether a code may be -/
def okC (K N : Int) : Bool := decide (1 ≤ K) && decide (K ≤ N) && decide (N ≤ 12)
end Go.Proofs.YtmpgfpmkmgebdaaGreatDoor.F
/- The contract of written: a shard's bytes. -/
namespace Go.Proofs.YtmpgfpmkmgebdaaGreatDoor.F
open Go.RowKit
theorem digest_lt (l : List Nat) : ∀ x ∈ Sha.digest l, x < 256 := Sha.tells_lt _
theorem digest_length (l : List Nat) : (Sha.digest l).length = 32 := by
  unfold Sha.digest Sha.tell; rw [Sha.tells_length]; rfl
/-- a number in 4 bytes -/
def be4 (n : Nat) : List Nat := [n / 16777216 % 256, n / 65536 % 256, n / 256 % 256, n % 256]
end Go.Proofs.YtmpgfpmkmgebdaaGreatDoor.F
