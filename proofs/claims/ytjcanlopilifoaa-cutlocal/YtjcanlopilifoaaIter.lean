/- The iterator that tells behind which byte each chunk ends, and a range over it. -/
import Derived.RangeFuncNested
import Derived.RangeFuncBound
import Derived.RangeFuncCalls
import Derived.RangeFuncLeaves
import Derived.RangeFuncBox
import Derived.Shelf.Abstract
import Derived.OwnWalkIn
import Derived.TacticsInMore
import Derived.LoopNIn
import Derived.LoopIn
import Derived.Test.YtjcanlopilifoaaFun
namespace Go.Proofs.Ytjcanlopilifoaa
open Go.RowKit
open Gr
set_option linter.unusedVariables false
def bs (s : ByteArray) : List Nat := s.data.toList.map fun x => x.toNat
theorem bs_length (s : ByteArray) : (bs s).length = s.size := by unfold bs; rw [List.length_map]; rfl
theorem bs_drop (s : ByteArray) (k : Nat) (h : k < s.size) : (bs s).drop k = s[k].toNat :: (bs s).drop (k + 1) := by
  rw [List.drop_eq_getElem_cons (by rw [bs_length]; exact h)]
  congr 1
  simp [bs]
  rfl
theorem hid {p : Prop} (h : p) : Hid p := h
/-- where one stands before byte k: the ends that have come, where the chunk under way begins, its hash -/
structure At (l : List Nat) (pre : List Nat) (b h k : Nat) : Prop where
  le : b ≤ k
  lt : h < 18446744073709551616
  all : pre ++ run (l.drop k) (k - b) h k = ends l
theorem At.start (l : List Nat) : At l [] 0 0 0 := ⟨Nat.le_refl _, by decide, by simp [ends]⟩
theorem At.yes {l pre : List Nat} {b h k x : Nat} {t : List Nat} (a : At l pre b h k) (hd : l.drop k = x :: t) (hc : (full (k + 1 - b) (roll h x) || t.isEmpty) = true) : At l (pre ++ [k + 1]) (k + 1) 0 (k + 1) ∧ pre ++ [k + 1] <+: ends l := by
  have e1 : l.drop (k + 1) = t := by rw [← List.drop_drop, hd]; rfl
  have e2 := a.all
  rw [hd, run_yes (by rw [show k - b + 1 = k + 1 - b by have := a.le; omega]; exact hc)] at e2
  refine ⟨⟨Nat.le_refl _, by decide, ?_⟩, ?_⟩
  · rw [e1, Nat.sub_self, ← e2]; simp
  · rw [← e2]; exact ⟨run t 0 0 (k + 1), by simp⟩
theorem At.no {l pre : List Nat} {b h k x : Nat} {t : List Nat} (a : At l pre b h k) (hd : l.drop k = x :: t) (hc : (full (k + 1 - b) (roll h x) || t.isEmpty) = false) : At l pre b (roll h x) (k + 1) := by
  have e1 : l.drop (k + 1) = t := by rw [← List.drop_drop, hd]; rfl
  have e2 := a.all
  have hle := a.le
  rw [hd, run_no (by rw [show k - b + 1 = k + 1 - b by omega]; exact hc)] at e2
  refine ⟨by omega, roll_lt _ _, ?_⟩
  rw [e1, show k + 1 - b = k - b + 1 by omega]
  exact e2
theorem At.last {l pre : List Nat} {b h : Nat} (a : At l pre b h l.length) : pre = ends l := by
  have := a.all
  rw [List.drop_length, run_nil, List.append_nil] at this
  exact this
set_option maxRecDepth 100000 in
set_option maxHeartbeats 4000000 in
theorem ends_in (n l cb : Nat) (s : ByteArray) (hs : s.size ≤ 100000) (J : List Nat → World → Prop) (hJ : ∀ pre W, J pre W → Has W cb #[.string s] 9)
    (hY : ∀ (pre : List Nat) (x : Nat) (W : World), J pre W → pre ++ [x] <+: ends (bs s) → YieldAt Fence.wide (n - 1) Try.prog l #[.int .i64 (x : Int)] W fun e W' => e = .returned (.bool true) ∧ J (pre ++ [x]) W')
    (W : World) (h0 : J [] W) :
    CallsIn Fence.wide n Try.prog 19 #[.func (.yield l) #[] #[], .pointer (some ⟨cb, 0, none⟩)] W fun e W' => (∃ v, e = .returned v) ∧ J (ends (bs s)) W' := by
  have hsa := @Oper.semAt_some
  have HJ := hid hJ
  have HY := hid hY
  have c0 := (hJ _ _ h0).cell 0
  simp only [List.getElem?_toArray, List.getElem?_cons_zero] at c0
  clear hJ hY
  refine callsIn_of_wp Try.func19 rfl trivial ?_ rfl
  simp only [Try.ntmps19, List.size_toArray, List.length_cons, List.length_nil, Nat.reduceAdd, Nat.reduceSub, Array.replicate_succ, Array.replicate_zero, List.push_toArray, List.append_toArray, List.nil_append, List.cons_append]
  gi_wp2
  gi_loopw [3, 4, 5, 6, 9] (fun v3 v4 v5 v6 v9 wr => ∃ (k b h : Nat) (pre : List Nat), k ≤ s.size ∧ v3 = .int .i64 (b : Int) ∧ v4 = .int .u64 (h : Int) ∧ v9 = .int .i64 (k : Int) ∧ At (bs s) pre b h k ∧ J pre wr) (fun _ _ _ _ v9 _ => s.size - (intOf v9).toNat)
  case atStart => exact ⟨0, 0, 0, [], Nat.zero_le _, rfl, rfl, rfl, At.start _, h0⟩
  case round =>
    obtain ⟨k, b, h, pre, hk, rfl, rfl, rfl, hA, hJs⟩ := hrel
    have d0 : wr.cell? ⟨cb, 0, none⟩ = some (.string s) := (HJ.out _ _ hJs).cell 0
    by_cases hlt : k < s.size
    · have x0 : s[k].toNat < 256 := s[k].toNat_lt
      have i0 : (0 : Int) ≤ (k : Int) := by omega
      have i1 : (k : Int) < (s.size : Int) := by omega
      have hd := bs_drop s k hlt
      have C1 := fun W => roll_any h s[k].toNat x0 W
      obtain ⟨y, hy⟩ : ∃ y, y = roll h s[k].toNat := ⟨_, rfl⟩
      have hyl : y < 18446744073709551616 := by rw [hy]; exact roll_lt _ _
      have hle := hA.le
      have C2 := fun W => full_any (k + 1 - b) y (by omega) hyl W
      rw [← hy] at C1
      have wk : IntKind.i64.wrap ((k : Int) + 1) = ((k + 1 : Nat) : Int) := by rw [IntKind.wrap_i64]; omega
      have wb : IntKind.i64.wrap ((k : Int) + 1 - (b : Int)) = ((k + 1 - b : Nat) : Int) := by rw [IntKind.wrap_i64]; omega
      have HA := hid hA
      have HYY := hid hy
      have HD := hid hd
      have HL := hid hle
      clear hA hy hd hle
      gi_wp2_with fail
      refine ⟨trivial, fun h => by simp [Fence.wide] at h, (callsIn_wide.2 (C1 _)).mono ?_⟩
      rintro e w1 ⟨rfl, rfl⟩
      by_cases hl2 : k + 1 < s.size
      · have q1 : (k : Int) + 1 < (s.size : Int) := by omega
        have ht : ((bs s).drop (k + 1)).isEmpty = false := by
          rw [bs_drop s (k + 1) hl2]; rfl
        cases hf : full (k + 1 - b) y with
        | false =>
          rw [hf] at C2
          have HN : Hid _ := HA.out.no HD.out (by rw [← HYY.out, hf, ht]; rfl)
          rw [← HYY.out] at HN
          clear hf C1
          gi_wp2_with fail
          refine ⟨trivial, fun h => by simp [Fence.wide] at h, (callsIn_wide.2 (C2 _)).mono ?_⟩
          rintro e w1 ⟨rfl, rfl⟩
          gi_wp2_with fail
          go_roundw
          case rel => exact ⟨k + 1, b, y, pre, by omega, rfl, rfl, by rfl, HN.out, hJs⟩
          case measure => first | (simp [intOf]; done) | (simp [intOf]; omega)
        | true =>
          rw [hf] at C2
          have HN : Hid _ := HA.out.yes HD.out (by rw [← HYY.out, hf]; rfl)
          clear hf C1
          obtain ⟨fn, tmps, assign, body, hy, hR⟩ := HY.out pre (k + 1) w1 hJs HN.out.2
          rw [show ((k + 1 : Nat) : Int) = (k : Int) + 1 by omega] at hy
          gi_wp2_with fail
          refine ⟨trivial, fun h => by simp [Fence.wide] at h, (callsIn_wide.2 (C2 _)).mono ?_⟩
          rintro e w1 ⟨rfl, rfl⟩
          gi_wp2_with fail
          refine ⟨fun h => by simp [Fence.wide] at h, hR.mono ?_⟩
          rintro e W3 ⟨rfl, hJ3⟩
          clear hR hy d0 hJs
          gi_wp2_with fail
          go_roundw
          case rel => exact ⟨k + 1, k + 1, 0, _, by omega, by rfl, rfl, by rfl, HN.out.1, hJ3⟩
          case measure => first | (simp [intOf]; done) | (simp [intOf]; omega)
      · have q1 : ¬ ((k : Int) + 1 < (s.size : Int)) := by omega
        have ht : ((bs s).drop (k + 1)).isEmpty = true := by
          rw [List.drop_eq_nil_of_le (by rw [bs_length]; omega)]; rfl
        have HN : Hid _ := HA.out.yes HD.out (by rw [ht, Bool.or_true])
        clear C1 C2
        obtain ⟨fn, tmps, assign, body, hy, hR⟩ := HY.out pre (k + 1) w1 hJs HN.out.2
        rw [show ((k + 1 : Nat) : Int) = (k : Int) + 1 by omega] at hy
        gi_wp2_with fail
        refine ⟨trivial, ?_⟩
        gi_wp2_with fail
        refine ⟨fun h => by simp [Fence.wide] at h, hR.mono ?_⟩
        rintro e W3 ⟨rfl, hJ3⟩
        clear hR hy d0 hJs
        gi_wp2_with fail
        go_roundw
        case rel => exact ⟨k + 1, k + 1, 0, _, by omega, by rfl, rfl, by rfl, HN.out.1, hJ3⟩
        case measure => first | (simp [intOf]; done) | (simp [intOf]; omega)
    · obtain rfl : k = s.size := by omega
      have q1 : ¬ ((s.size : Int) < (s.size : Int)) := by omega
      have hf : pre = ends (bs s) := At.last (b := b) (h := h) (by rw [bs_length]; exact hA)
      subst hf
      clear hA
      gi_wp2_with fail
      go_end0
      exact ⟨⟨_, rfl⟩, hJs⟩
end Go.Proofs.Ytjcanlopilifoaa
