/- The library's iterator over what stands between the slashes, and a range over it. -/
import Derived.RangeFuncNested
import Derived.RangeFuncBound
import Derived.RangeFuncCalls
import Derived.RangeFuncLeaves
import Derived.RangeFuncBox
import Derived.Shelf.Abstract
import Derived.OwnWalkIn
import Derived.TacticsInMore
import Derived.LoopNIn
import Derived.LoopIn
import Derived.Lib.Bytealg
import Derived.Test.YtnhekngmgjnodaaDoorFun
namespace Go.Proofs.YtnhekngmgjnodaaDoor
open Go.RowKit
open Pa
set_option linter.unusedVariables false
theorem spl_first : ∀ (p r : List Nat), 47 ∉ p → spl (p ++ 47 :: r) = p :: spl r
  | [], r, _ => spl_slash r
  | x :: p, r, h => by
    have hx : x ≠ 47 := fun e => h (by rw [e]; simp)
    rw [List.cons_append, spl_byte hx (spl_first p r fun hh => h (by simp [hh]))]
theorem idx_cases : ∀ (l : List UInt8), (Lib.indexByte l 47 = -1 ∧ 47 ∉ l.map (fun x => x.toNat)) ∨ ∃ (p : List UInt8) (r : List UInt8), l = p ++ 47 :: r ∧ Lib.indexByte l 47 = (p.length : Int) ∧ 47 ∉ p.map (fun x => x.toNat)
  | [] => .inl ⟨rfl, by simp⟩
  | x :: l => by
    by_cases hx : x = 47
    · subst hx
      exact .inr ⟨[], l, rfl, by unfold Lib.indexByte; simp, by simp⟩
    · have hn : x.toNat ≠ 47 := fun e => hx (by
        have : x.toNat = (47 : UInt8).toNat := e
        exact UInt8.toNat_inj.1 this)
      have hb : (x == 47) = false := by
        rw [beq_eq_false_iff_ne]; exact hx
      rcases idx_cases l with ⟨h1, h2⟩ | ⟨p, r, h1, h2, h3⟩
      · refine .inl ⟨by unfold Lib.indexByte; rw [hb, h1]; rfl, ?_⟩
        rw [List.map_cons]
        intro hm
        rcases List.mem_cons.1 hm with h | h
        · exact hn h.symm
        · exact h2 h
      · refine .inr ⟨x :: p, r, by rw [h1]; rfl, ?_, ?_⟩
        · have : ¬ ((p.length : Int) == -1) = true := by simp
          unfold Lib.indexByte; rw [hb, h2]
          rw [if_neg (by simp), if_neg this]; simp
        · rw [List.map_cons]
          intro hm
          rcases List.mem_cons.1 hm with h | h
          · exact hn h.symm
          · exact h3 h
/-- what stands between the slashes, as texts -/
def splB (s : ByteArray) : List ByteArray := (spl (bs s)).map ofBs
theorem splB_cases (s : ByteArray) : (Lib.indexByte s.data.toList 47 = -1 ∧ splB s = [s]) ∨ ∃ k : Nat, k < s.size ∧ Lib.indexByte s.data.toList 47 = (k : Int) ∧ splB s = s.extract 0 k :: splB (s.extract (k + 1) s.size) := by
  rcases idx_cases s.data.toList with ⟨h1, h2⟩ | ⟨p, r, h1, h2, h3⟩
  · refine .inl ⟨h1, ?_⟩
    unfold splB
    rw [spl_single (p := bs s) h2]
    simp [ofBs_bs]
  · have hb : bs s = p.map (fun x => x.toNat) ++ 47 :: r.map (fun x => x.toNat) := by unfold bs; rw [h1]; simp
    have hl := congrArg List.length hb
    rw [bs_length, List.length_append, List.length_cons, List.length_map, List.length_map] at hl
    refine .inr ⟨p.length, by omega, h2, ?_⟩
    have e1 : bs (s.extract 0 p.length) = p.map (fun x => x.toNat) := by rw [bs_extract, List.drop_zero, hb]; simp
    have e2 : bs (s.extract (p.length + 1) s.size) = r.map (fun x => x.toNat) := by
      rw [bs_extract, List.take_of_length_le (by rw [bs_length]; exact Nat.le_refl _), hb]
      have : p.length + 1 = (p.map (fun x => x.toNat)).length + 1 := by simp
      rw [this, ← List.drop_drop, List.drop_left]
      rfl
    unfold splB
    rw [hb, spl_first _ _ h3, List.map_cons, ← e1, ofBs_bs, e2]
theorem splB_len (s : ByteArray) : (splB s).length ≤ s.size + 1 := by
  have h : ∀ p : List Nat, (spl p).length ≤ p.length + 1 := by
    intro p
    induction p with
    | nil => simp [spl]
    | cons x r ih =>
      by_cases hx : x = 47
      · subst hx; rw [spl_slash]; simp; omega
      · cases e : spl r with
        | nil => exact absurd e (spl_ne r)
        | cons a t => rw [spl_byte hx e]; rw [e] at ih; simp at *; omega
  unfold splB
  rw [List.length_map]
  have := h (bs s)
  rw [bs_length] at this
  exact this
theorem index_any (s : ByteArray) (w : World) : Calls Tryd.prog 39 #[.string s, .string ⟨#[47]⟩] w fun e w' => e = .returned (.int .i64 (Lib.indexByte s.data.toList 47)) ∧ w' = w := Any.strings_Index_one Tryd.lays143 s 47 w
/-- what is left to be gone through -/
def left (W : World) (c : Nat) : Nat := match W.cell? ⟨c, 0, none⟩ with
  | some (.string r) => r.size
  | _ => 0
set_option maxRecDepth 100000 in
set_option maxHeartbeats 4000000 in
theorem split_in (n l c1 c2 c3 : Nat) (s : ByteArray) (hs : s.size ≤ 4611686018427387903) (J Jx : List ByteArray → World → Prop)
    (hJ : ∀ pre W, J pre W → Has W c1 #[.string ⟨#[47]⟩] 9 ∧ Has W c3 #[.int .i64 0] 3) (hJs : ∀ pre W (r : ByteArray), J pre W → J pre (W.setCell ⟨c2, 0, none⟩ (.string r)))
    (hY : ∀ (pre : List ByteArray) (x r : ByteArray) (W : World), J pre W → Has W c2 #[.string r] 9 → pre ++ [x] <+: splB s → YieldAt Fence.wide (n - 1) Tryd.prog l #[.string x] W fun e W' => (e = .returned (.bool true) ∧ J (pre ++ [x]) W' ∧ Has W' c2 #[.string r] 9) ∨ (e = .returned (.bool false) ∧ Jx (pre ++ [x]) W'))
    (W : World) (h0 : J [] W) (h2 : Has W c2 #[.string s] 9) :
    CallsIn Fence.wide n Tryd.prog 37 #[.func (.yield l) #[] #[], .pointer (some ⟨c1, 0, none⟩), .pointer (some ⟨c2, 0, none⟩), .pointer (some ⟨c3, 0, none⟩)] W fun e W' => (∃ v, e = .returned v) ∧ (J (splB s) W' ∨ ∃ pre, Jx pre W') := by
  have hsa := @Oper.semAt_some
  have HJ := hid hJ
  have HJS := hid hJs
  have HY := hid hY
  have d1 := (hJ _ _ h0).1.cell 0
  simp only [List.getElem?_toArray, List.getElem?_cons_zero] at d1
  have H2 := hid h2
  have z1 : ((⟨#[47]⟩ : ByteArray).size : Int) = 1 := rfl
  clear hJ hY hJs h2
  refine callsIn_of_wp Tryd.func37 rfl trivial ?_ rfl
  simp only [Tryd.ntmps37, List.size_toArray, List.length_cons, List.length_nil, Nat.reduceAdd, Nat.reduceSub, Array.replicate_succ, Array.replicate_zero, List.push_toArray, List.append_toArray, List.nil_append, List.cons_append]
  gi_wp2
  gi_loopw [7, 8] (fun _ _ wr => ∃ (pre : List ByteArray) (r : ByteArray), r.size ≤ s.size ∧ Hid (splB s = pre ++ splB r) ∧ Hid (Has wr c2 #[.string r] 9) ∧ Hid (J pre wr)) (fun _ _ wr => left wr c2)
  case atStart => exact ⟨[], s, Nat.le_refl _, rfl, H2, h0⟩
  case round =>
    obtain ⟨pre, r, hr, HS, HR, HJ1⟩ := hrel
    have g1 := (HJ.out _ _ HJ1.out).1.cell 0
    have g2 := HR.out.cell 0
    have g3 := (HJ.out _ _ HJ1.out).2.cell 0
    have f2 := HR.out.frozen 0
    simp only [List.getElem?_toArray, List.getElem?_cons_zero] at g1 g2 g3
    have hlf : left wr c2 = r.size := by unfold left; rw [g2]
    have C1 := fun W => index_any r W
    rcases splB_cases r with ⟨hx, hsp⟩ | ⟨k, hk, hx, hsp⟩
    · rw [hx] at C1
      have hp : pre ++ [r] <+: splB s := by rw [HS.out, hsp]; exact List.prefix_refl _
      have hp2 : splB s = pre ++ [r] := by rw [HS.out, hsp]
      obtain ⟨fn, tmps, assign, body, hy, hR⟩ := HY.out pre r r wr HJ1.out HR.out hp
      have HP2 := hid hp2
      clear hsp hx hp hp2 HS
      gi_wp2_with fail
      refine ⟨trivial, fun h => by simp [Fence.wide] at h, (callsIn_wide.2 (C1 _)).mono ?_⟩
      rintro e w1 ⟨rfl, rfl⟩
      gi_wp2_with fail
      refine ⟨fun h => by simp [Fence.wide] at h, hR.mono ?_⟩
      rintro e W3 (⟨rfl, h3, _⟩ | ⟨rfl, h3⟩)
      · gi_wp2_with fail
        go_end0
        exact ⟨⟨_, rfl⟩, .inl (by rw [HP2.out]; exact h3)⟩
      · gi_wp2_with fail
        go_end0
        exact ⟨⟨_, rfl⟩, .inr ⟨_, h3⟩⟩
    · rw [hx] at C1
      have hp : pre ++ [r.extract 0 k] <+: splB s := by rw [HS.out, hsp]; exact ⟨splB (r.extract (k + 1) r.size), by simp⟩
      have hp2 : splB s = (pre ++ [r.extract 0 k]) ++ splB (r.extract (k + 1) r.size) := by rw [HS.out, hsp]; simp
      obtain ⟨fn, tmps, assign, body, hy, hR⟩ := HY.out pre (r.extract 0 k) r wr HJ1.out HR.out hp
      have HP2 := hid hp2
      have i0 : ¬ (k : Int) < 0 := by omega
      have i1 : (0 : Int) ≤ (k : Int) := by omega
      have i2 : (k : Int) ≤ (r.size : Int) := by omega
      have wk : IntKind.i64.wrap ((k : Int) + 0) = (k : Int) := by rw [IntKind.wrap_i64]; omega
      have wk1 : IntKind.i64.wrap ((k : Int) + 1) = ((k + 1 : Nat) : Int) := by rw [IntKind.wrap_i64]; omega
      have i3 : (0 : Int) ≤ ((k + 1 : Nat) : Int) := by omega
      have i4 : ((k + 1 : Nat) : Int) ≤ (r.size : Int) := by omega
      have i5 : (((k + 1 : Nat) : Int)).toNat = k + 1 := by omega
      have hsz : (r.extract (k + 1) r.size).size < r.size := by
        rw [ByteArray.size_extract]; omega
      clear hsp hx hp hp2 HS
      gi_wp2_with fail
      refine ⟨trivial, fun h => by simp [Fence.wide] at h, (callsIn_wide.2 (C1 _)).mono ?_⟩
      rintro e w1 ⟨rfl, rfl⟩
      gi_wp2_with fail
      refine ⟨fun h => by simp [Fence.wide] at h, hR.mono ?_⟩
      rintro e W3 (⟨rfl, h3, h4⟩ | ⟨rfl, h3⟩)
      · have H3 := hid (HJS.out _ _ (r.extract (k + 1) r.size) h3)
        have H4 : Hid (Has (W3.setCell ⟨c2, 0, none⟩ (.string (r.extract (k + 1) r.size))) c2 #[.string (r.extract (k + 1) r.size)] 9) := hid (h4.set 0 _)
        have q1 := (HJ.out _ _ h3).1.cell 0
        have q2 := h4.cell 0
        have q4 := h4.frozen 0
        simp only [List.getElem?_toArray, List.getElem?_cons_zero] at q1 q2
        have hl2 : left (W3.setCell ⟨c2, 0, none⟩ (.string (r.extract (k + 1) r.size))) c2 = (r.extract (k + 1) r.size).size := by
          have := H4.out.cell 0
          simp only [List.getElem?_toArray, List.getElem?_cons_zero] at this
          unfold left; rw [this]
        clear h3 h4 g1 g2 g3 f2 hR hy HR HJ1
        gi_wp2_with fail
        go_roundw
        case rel => exact ⟨_, _, by omega, HP2, H4, H3⟩
        case measure => rw [hl2, hlf]; exact hsz
      · clear hR hy g1 g2 g3 f2
        gi_wp2_with fail
        refine bodyPost_ret (results_none rfl _ _ _) rfl ?_
        exact ⟨⟨_, rfl⟩, .inr ⟨_, h3⟩⟩
end Go.Proofs.YtnhekngmgjnodaaDoor
