/- like: what is told of both worlds is the same. Printed by gen_e8.py. -/
import Derived.Test.YtgdiaflikfdnaaaGreatE7
namespace Go.Proofs.YtgdiaflikfdnaaaGreat
open Go.RowKit Go.Maps
def lkF14 (b c g n cap k blk : Nat) (u : Bool) (vl : Value) (M : List Ob) (i : Nat) (v : Value) (W : World) : Prop := match i with
  | 78 => v = .pointer (some ⟨b, 0, none⟩) | 79 => v = .int .i64 (k : Int) | 80 => v = .bool u
  | 81 => v = .pointer (some ⟨c, 0, none⟩) | 82 => v = .pointer (some ⟨c, 0, none⟩) | 83 => v = .pointer (some ⟨c, 0, none⟩) | 84 => v = .slice (some ⟨g, 0, none⟩) n cap | 85 => v = .int .i64 (k : Int) | 86 => v = .pointer (some ⟨g, k, none⟩) | 87 => v = ptr blk
  | 88 => v = .bool u | 89 => v = .bool false | 90 => v = .bool false | 91 => v = vl
  | 92 => v = .pointer (some ⟨c, 0, none⟩) | 93 => v = .pointer (some ⟨c, 0, none⟩) | 94 => v = .pointer (some ⟨c, 0, none⟩) | 95 => v = .slice (some ⟨g, 0, none⟩) n cap | 96 => v = .int .i64 (k : Int) | 97 => v = .pointer (some ⟨g, k, none⟩) | 98 => v = ptr blk
  | 99 => ∃ B, W.ownsRow B 35 2 v M.length (objCells M)
  | 100 => v = .bool true | 101 => v = .bool false | 102 => v = .bool false
  | _ => True
theorem lkF14_below {b c g n cap k blk : Nat} {u : Bool} {vl : Value} {M : List Ob} {i : Nat} {v : Value} {W W1 : World} (h : lkF14 b c g n cap k blk u vl M i v W) (hb : Below W.heap.size W W1) : lkF14 b c g n cap k blk u vl M i v W1 := by
  unfold lkF14 at h ⊢
  split at h
  all_goals first
    | exact h
    | (obtain ⟨B, e⟩ := h; exact ⟨B, row_below e hb⟩)
def lkF7 (va vb : Value) (g1 g2 k z : Nat) (i : Nat) (v : Value) (_ : World) : Prop := match i with
  | 54 => v = va | 55 => v = .int .i64 (k : Int) | 56 => v = .pointer (some ⟨g1, k, none⟩) | 57 => v = .int .i64 (z : Int)
  | 58 => v = vb | 59 => v = .int .i64 (k : Int) | 60 => v = .pointer (some ⟨g2, k, none⟩) | 61 => v = .int .i64 (z : Int)
  | 62 => v = .bool false
  | _ => True
def lkF2 (b c g n cap calls : Nat) (dk : Bool) (m : Nat) (va vb : Value) (i : Nat) (v : Value) (_ : World) : Prop := match i with
  | 15 => v = .pointer (some ⟨b, 0, none⟩) | 24 => v = .pointer (some ⟨b, 0, none⟩) | 33 => v = .pointer (some ⟨b, 0, none⟩)
  | 16 => v = .int .i64 (n : Int) | 21 => v = .int .i64 (n : Int)
  | 17 => v = .pointer (some ⟨c, 0, none⟩) | 18 => v = .pointer (some ⟨c, 0, none⟩) | 19 => v = .pointer (some ⟨c, 0, none⟩) | 26 => v = .pointer (some ⟨c, 0, none⟩) | 27 => v = .pointer (some ⟨c, 0, none⟩) | 35 => v = .pointer (some ⟨c, 0, none⟩) | 36 => v = .pointer (some ⟨c, 0, none⟩)
  | 20 => v = .slice (some ⟨g, 0, none⟩) n cap
  | 28 => v = .pointer (some ⟨c, 2, none⟩) | 37 => v = .pointer (some ⟨c, 4, none⟩)
  | 25 => v = .int .i64 (calls : Int) | 29 => v = .int .i64 (calls : Int)
  | 34 => v = .bool dk | 38 => v = .bool dk
  | 22 => v = .bool false | 23 => v = .bool false | 30 => v = .bool false | 31 => v = .bool false | 32 => v = .bool false | 39 => v = .bool false | 40 => v = .bool false | 41 => v = .bool false | 46 => v = .bool false | 47 => v = .bool false
  | 42 => v = va | 44 => v = vb | 43 => v = .int .i64 (m : Int) | 45 => v = .int .i64 (m : Int)
  | _ => True
section
variable {ev : Operand → Value} {o : Oper} {w : World} {x y : Operand}
theorem enl24 (args : Array Value) : (callFunc 24 args).run Tryz.prog w = .ok (.enter 24 args) w := by kernel_rfl
theorem enl19 (args : Array Value) : (callFunc 19 args).run Tryz.prog w = .ok (.enter 19 args) w := by kernel_rfl
theorem enl20 (args : Array Value) : (callFunc 20 args).run Tryz.prog w = .ok (.enter 20 args) w := by kernel_rfl
theorem enl22 (args : Array Value) : (callFunc 22 args).run Tryz.prog w = .ok (.enter 22 args) w := by kernel_rfl
theorem enl23 (args : Array Value) : (callFunc 23 args).run Tryz.prog w = .ok (.enter 23 args) w := by kernel_rfl
theorem enl46 (args : Array Value) : (callFunc 46 args).run Tryz.prog w = .ok (.enter 46 args) w := by kernel_rfl
theorem enl47 (args : Array Value) : (callFunc 47 args).run Tryz.prog w = .ok (.enter 47 args) w := by kernel_rfl
theorem enl21 (args : Array Value) : (callFunc 21 args).run Tryz.prog w = .ok (.enter 21 args) w := by kernel_rfl
theorem rn_ix43 {g n c k : Nat} (ho : o.op = .indexAddr 43 x y) (hx : ev x = .slice (some ⟨g, 0, none⟩) n c) (hy : ev y = .int .i64 (k : Int)) (hk : k < n) : (execOp ev o).run Tryz.prog w = .ok (.value (.pointer (some ⟨g, k, none⟩))) w := by
  have q : (k : Int) < (n : Int) := by omega
  simp [execOp, ho, hx, hy, go_sem, q]
theorem rn_len43 {a : Option Addr} {n c : Nat} (ho : o.op = .call { callee := .builtin .len, args := #[x], argTypes := #[43] }) (hx : ev x = .slice a n c) : (execOp ev o).run Tryz.prog w = .ok (.value (.int .i64 (n : Int))) w := by
  simp [execOp, ho, hx, go_sem]
end
set_option maxHeartbeats 8000000 in
set_option maxRecDepth 20000 in
theorem like_any {w : World} {S : Nat → Prop} {b c N : Nat} {p : Nat × Nat × Nat} {s : Wd} {r : Rd} (h : DP w S b c p s r) (ht : Pair N s r) (hN : N ≤ 100000) (hlen : s.l.length ≤ 1000) : Calls Tryz.prog 13 #[ptr b, ptr c] w fun e w' => e = .returned (.bool true) ∧ Below w.heap.size w w' := by
  have HSU := hid (ht.sus s.l.length)
  have HDP := hid h
  have HTW := hid ht
  have HLEN := hid hlen
  obtain ⟨S1, T1, h1, h2, _, _, _, _⟩ := h
  have HS1 := wsus_any h1 hlen
  have HI1 := hid h1
  have HI2 := hid h2
  unfold ptr at *
  clear ht hlen h1 h2
  go_enter Tryz.func13, Tryz.ntmps13
  go_wp2_with fail
  refine HS1.mono ?_
  clear HS1
  rintro x w1 ⟨va, rfl, hra, hb1⟩
  have HS2 := dsus_any (HI2.out.below hb1) (by rw [← HTW.out.len]; exact HLEN.out)
  rw [← HTW.out.len, HSU.out] at HS2
  have HRA := hid hra
  have HB1 := hid hb1
  unfold ptr at HS2
  clear hra hb1
  go_wp2_with fail
  refine HS2.mono ?_
  clear HS2
  rintro x wx ⟨vb, rfl, hrb, hb2⟩
  have hra2 := row_below HRA.out hb2
  have HRB := hid hrb
  have HVA : Hid (∀ k, va.ownBlock = some k → k < w1.heap.size) := hid fun k hk => (HRA.out.lt k hk).2
  have hbx := HB1.out.trans (hb2.mono HB1.out.size)
  have HBX := hid hbx
  obtain ⟨cap, cup, ⟨c0, c1, c2, c3, c4⟩, _, _, _⟩ := (HI2.out.below hbx).cells
  rw [← HTW.out.len] at c0
  rw [← HTW.out.calls] at c2
  rw [← HTW.out.dark] at c4
  have hwd := HI1.out.below hbx
  have HN : Hid (∀ W', AtW wx.drew W' → Calls Tryz.prog 24 #[.pointer (some ⟨b, 0, none⟩)] W' fun e w' => e = .returned (.int .i64 (s.l.length : Int)) ∧ w' = W') := hid fun W' hW => by obtain rfl : W' = wx.drew := hW; exact n_any (hwd.below (Below.refl _ _).drew)
  have HCA : Hid (∀ W', AtW wx.drew W' → Calls Tryz.prog 19 #[.pointer (some ⟨b, 0, none⟩)] W' fun e w' => e = .returned (.int .i64 (s.calls : Int)) ∧ w' = W') := hid fun W' hW => by obtain rfl : W' = wx.drew := hW; exact calls_any (hwd.below (Below.refl _ _).drew)
  have HDA : Hid (∀ W', AtW wx.drew W' → Calls Tryz.prog 20 #[.pointer (some ⟨b, 0, none⟩)] W' fun e w' => e = .returned (.bool s.dark) ∧ w' = W') := hid fun W' hW => by obtain rfl : W' = wx.drew := hW; exact dark_any (hwd.below (Below.refl _ _).drew)
  obtain ⟨aa, ca, rfl⟩ := row_slice hra2
  obtain ⟨ab, cb, rfl⟩ := row_slice hrb
  have HRA2 := hid hra2
  clear hra2 hrb hb2 hbx hwd c1 c3 HRA
  have HSL : Hid ((susL s.l s.l.length).length ≤ 1000) := hid (Nat.le_trans (susL_len _ _) HLEN.out)
  generalize hsu : susL s.l s.l.length = L at *
  clear hsu
  generalize hm : L.length = m at *
  have HM := hid hm
  clear hm
  generalize hn : s.l.length = n at *
  have HNN := hid hn
  clear hn
  generalize hcc : s.calls = calls at *
  clear hcc
  generalize hdd : s.dark = dk at *
  clear hdd
  obtain ⟨va, hva⟩ : ∃ va, va = Value.slice aa m ca := ⟨_, rfl⟩
  obtain ⟨vb, hvb⟩ : ∃ vb, vb = Value.slice ab m cb := ⟨_, rfl⟩
  subst hva hvb
  go_wp2_with fail
  refine Tl.wp_mix_lit (by kernel_rfl) 33 [15, 16, 17, 18, 19, 20, 21, 22, 23, 24, 25, 26, 27, 28, 29, 30, 31, 32, 33, 34, 35, 36, 37, 38, 39, 40, 41, 42, 43, 44, 45, 46, 47] 143 rfl (by kernel_rfl) (AtW wx.drew) (lkF2 b c p.2.1 n cap calls dk m (.slice aa m ca) (.slice ab m cb)) rfl
    ⟨fun a' W' hC hF => ?_, fun a' W' hC hF => ?_, fun a' W' hC hF => ?_, fun a' W' hC hF => ?_, fun a' W' hC hF => ?_, fun a' W' hC hF => ?_, fun a' W' hC hF => ?_, fun a' W' hC hF => ?_, fun a' W' hC hF => ?_, fun a' W' hC hF => ?_, fun a' W' hC hF => ?_, fun a' W' hC hF => ?_, fun a' W' hC hF => ?_, fun a' W' hC hF => ?_, fun a' W' hC hF => ?_, fun a' W' hC hF => ?_, fun a' W' hC hF => ?_, fun a' W' hC hF => ?_, fun a' W' hC hF => ?_, fun a' W' hC hF => ?_, fun a' W' hC hF => ?_, fun a' W' hC hF => ?_, fun a' W' hC hF => ?_, fun a' W' hC hF => ?_, fun a' W' hC hF => ?_, fun a' W' hC hF => ?_, fun a' W' hC hF => ?_, fun a' W' hC hF => ?_, fun a' W' hC hF => ?_, fun a' W' hC hF => ?_, fun a' W' hC hF => ?_, fun a' W' hC hF => ?_, fun a' W' hC hF => ?_, trivial⟩ ?_
  · exact Tl.sm_v 15 _ rfl (Tl.wanted_none rfl) hC rfl (rn_move rfl ((hF 0 (by decide +kernel)).2 (by decide)))
  · refine Tl.sm_call 24 #[_] (Tl.wanted_none rfl) (rn_call1 rfl rfl ((hF 15 (by decide +kernel)).1 (by decide)) (enl24 _)) ((HN.out _ hC).mono ?_)
    rintro e w'' ⟨rfl, rfl⟩
    exact ⟨_, rfl, hC, fun d v _ h => h, fun d hd => by cases hd; rfl⟩
  · exact Tl.sm_v 17 _ rfl (Tl.wanted_none rfl) hC rfl (rn_move rfl ((hF 1 (by decide +kernel)).2 (by decide)))
  · exact Tl.sm_v 18 _ rfl (Tl.wanted_none rfl) hC rfl (rn_nilCheck rfl ((hF 17 (by decide +kernel)).1 (by decide)))
  · exact Tl.sm_v 19 _ rfl (Tl.wanted_none rfl) hC rfl (rn_f70_0 rfl ((hF 18 (by decide +kernel)).1 (by decide)))
  · exact Tl.sm_v 20 _ rfl (Tl.wanted_none rfl) hC rfl (rn_load68 rfl ((hF 19 (by decide +kernel)).1 (by decide)) (by rw [show W' = _ from hC]; exact c0))
  · exact Tl.sm_v 21 _ rfl (Tl.wanted_none rfl) hC rfl (rn_len68n rfl ((hF 20 (by decide +kernel)).1 (by decide)) )
  · exact Tl.sm_v 22 _ rfl (Tl.wanted_none rfl) hC rfl (rn_neq3 rfl ((hF 16 (by decide +kernel)).1 (by decide)) ((hF 21 (by decide +kernel)).1 (by decide)) (by simp))
  · exact Tl.sm_v 23 _ rfl (Tl.wanted_none rfl) hC rfl (rn_move rfl ((hF 22 (by decide +kernel)).1 (by decide)))
  · exact Tl.sm_v 24 _ rfl (Tl.wanted_is rfl rfl ((hF 23 (by decide +kernel)).1 (by decide))) hC rfl (rn_move rfl ((hF 0 (by decide +kernel)).2 (by decide)))
  · refine Tl.sm_call 19 #[_] (Tl.wanted_is rfl rfl ((hF 23 (by decide +kernel)).1 (by decide))) (rn_call1 rfl rfl ((hF 24 (by decide +kernel)).1 (by decide)) (enl19 _)) ((HCA.out _ hC).mono ?_)
    rintro e w'' ⟨rfl, rfl⟩
    exact ⟨_, rfl, hC, fun d v _ h => h, fun d hd => by cases hd; rfl⟩
  · exact Tl.sm_v 26 _ rfl (Tl.wanted_is rfl rfl ((hF 23 (by decide +kernel)).1 (by decide))) hC rfl (rn_move rfl ((hF 1 (by decide +kernel)).2 (by decide)))
  · exact Tl.sm_v 27 _ rfl (Tl.wanted_is rfl rfl ((hF 23 (by decide +kernel)).1 (by decide))) hC rfl (rn_nilCheck rfl ((hF 26 (by decide +kernel)).1 (by decide)))
  · exact Tl.sm_v 28 _ rfl (Tl.wanted_is rfl rfl ((hF 23 (by decide +kernel)).1 (by decide))) hC rfl (rn_f70_2 rfl ((hF 27 (by decide +kernel)).1 (by decide)))
  · exact Tl.sm_v 29 _ rfl (Tl.wanted_is rfl rfl ((hF 23 (by decide +kernel)).1 (by decide))) hC rfl (rn_load3 rfl ((hF 28 (by decide +kernel)).1 (by decide)) (by rw [show W' = _ from hC]; exact c2))
  · exact Tl.sm_v 30 _ rfl (Tl.wanted_is rfl rfl ((hF 23 (by decide +kernel)).1 (by decide))) hC rfl (rn_neq3 rfl ((hF 25 (by decide +kernel)).1 (by decide)) ((hF 29 (by decide +kernel)).1 (by decide)) (by simp))
  · exact Tl.sm_v 31 _ rfl (Tl.wanted_none rfl) hC rfl (rn_pickF rfl ((hF 23 (by decide +kernel)).1 (by decide)) ((hF 30 (by decide +kernel)).1 (by decide)))
  · exact Tl.sm_v 32 _ rfl (Tl.wanted_none rfl) hC rfl (rn_move rfl ((hF 31 (by decide +kernel)).1 (by decide)))
  · exact Tl.sm_v 33 _ rfl (Tl.wanted_is rfl rfl ((hF 32 (by decide +kernel)).1 (by decide))) hC rfl (rn_move rfl ((hF 0 (by decide +kernel)).2 (by decide)))
  · refine Tl.sm_call 20 #[_] (Tl.wanted_is rfl rfl ((hF 32 (by decide +kernel)).1 (by decide))) (rn_call1 rfl rfl ((hF 33 (by decide +kernel)).1 (by decide)) (enl20 _)) ((HDA.out _ hC).mono ?_)
    rintro e w'' ⟨rfl, rfl⟩
    exact ⟨_, rfl, hC, fun d v _ h => h, fun d hd => by cases hd; rfl⟩
  · exact Tl.sm_v 35 _ rfl (Tl.wanted_is rfl rfl ((hF 32 (by decide +kernel)).1 (by decide))) hC rfl (rn_move rfl ((hF 1 (by decide +kernel)).2 (by decide)))
  · exact Tl.sm_v 36 _ rfl (Tl.wanted_is rfl rfl ((hF 32 (by decide +kernel)).1 (by decide))) hC rfl (rn_nilCheck rfl ((hF 35 (by decide +kernel)).1 (by decide)))
  · exact Tl.sm_v 37 _ rfl (Tl.wanted_is rfl rfl ((hF 32 (by decide +kernel)).1 (by decide))) hC rfl (rn_f70_4 rfl ((hF 36 (by decide +kernel)).1 (by decide)))
  · exact Tl.sm_v 38 _ rfl (Tl.wanted_is rfl rfl ((hF 32 (by decide +kernel)).1 (by decide))) hC rfl (rn_load4 rfl ((hF 37 (by decide +kernel)).1 (by decide)) (by rw [show W' = _ from hC]; exact c4))
  · exact Tl.sm_v 39 _ rfl (Tl.wanted_is rfl rfl ((hF 32 (by decide +kernel)).1 (by decide))) hC rfl (rn_neq4 rfl ((hF 34 (by decide +kernel)).1 (by decide)) ((hF 38 (by decide +kernel)).1 (by decide)) (by simp))
  · exact Tl.sm_v 40 _ rfl (Tl.wanted_none rfl) hC rfl (rn_pickF rfl ((hF 32 (by decide +kernel)).1 (by decide)) ((hF 39 (by decide +kernel)).1 (by decide)))
  · exact Tl.sm_v 41 _ rfl (Tl.wanted_none rfl) hC rfl (rn_move rfl ((hF 40 (by decide +kernel)).1 (by decide)))
  · exact Tl.sm_v 42 _ rfl (Tl.wanted_is rfl rfl ((hF 41 (by decide +kernel)).1 (by decide))) hC rfl (rn_move rfl ((hF 5 (by decide +kernel)).2 (by decide)))
  · exact Tl.sm_v 43 _ rfl (Tl.wanted_is rfl rfl ((hF 41 (by decide +kernel)).1 (by decide))) hC rfl (rn_len43 rfl ((hF 42 (by decide +kernel)).1 (by decide)) )
  · exact Tl.sm_v 44 _ rfl (Tl.wanted_is rfl rfl ((hF 41 (by decide +kernel)).1 (by decide))) hC rfl (rn_move rfl ((hF 6 (by decide +kernel)).2 (by decide)))
  · exact Tl.sm_v 45 _ rfl (Tl.wanted_is rfl rfl ((hF 41 (by decide +kernel)).1 (by decide))) hC rfl (rn_len43 rfl ((hF 44 (by decide +kernel)).1 (by decide)) )
  · exact Tl.sm_v 46 _ rfl (Tl.wanted_is rfl rfl ((hF 41 (by decide +kernel)).1 (by decide))) hC rfl (rn_neq3 rfl ((hF 43 (by decide +kernel)).1 (by decide)) ((hF 45 (by decide +kernel)).1 (by decide)) (by simp))
  · exact Tl.sm_v 47 _ rfl (Tl.wanted_none rfl) hC rfl (rn_pickF rfl ((hF 41 (by decide +kernel)).1 (by decide)) ((hF 46 (by decide +kernel)).1 (by decide)))
  intro v wB hw hv
  obtain rfl : wB = _ := hw
  have v47 : v 47 = .bool false := hv 47 (by decide)
  clear hv
  simp only [Tl.fill, List.drop_succ_cons, List.drop_zero, wpList]
  simp only [Act.put, List.setIfInBounds_toArray, List.set_cons_succ, List.set_cons_zero, v47]
  clear v47
  go_wp2_with fail
  have hm1 : m ≤ 1000 := HSL.out
  have H0 : Hid (0 < m → ∃ g1 cur, aa = some ⟨g1, 0, none⟩ ∧ Has wx.drew g1 cur 3 ∧ ∀ j, 0 ≤ j → cur[j]? = wx.cell? ⟨g1, j, none⟩) := hid fun h0 => by
    rcases HRA2.out.2 with ⟨e, e2⟩ | ⟨g1, ca, cur, e1, _, hh, _⟩
    · cases e; omega
    · cases e1
      have hh' : Has wx g1 cur 3 := hh
      exact ⟨g1, cur, rfl, hh'.below (Below.refl _ _).drew hh'.lt, fun j _ => (hh'.cell j).symm⟩
  clear c0 c2 c4
  go_loopg [7] m (fun gk s7 wy => ∃ k : Nat, k + gk = m ∧ s7 = .int .i64 (k : Int) ∧ (0 < m → ∃ g1 cur, aa = some ⟨g1, 0, none⟩ ∧ Has wy g1 cur 3 ∧ ∀ j, k ≤ j → cur[j]? = wx.cell? ⟨g1, j, none⟩) ∧ Only (fun i => (Value.slice aa m ca).ownBlock = some i) wx wy)
  case atStart => exact ⟨0, by omega, rfl, H0.out, (Only.refl _ _).drew⟩
  case round =>
    clear H0
    obtain ⟨k, hk, rfl, hin, hon⟩ := hrel
    have HON := hid hon
    cases gk with
    | zero =>
      have q1 : ¬ ((k : Int) < (m : Int)) := by omega
      have HBY := hid (HBX.out.trans (hon.below HBX.out.size fun i hi => (HRA2.out.lt i hi).1))
      clear hon hin
      go_wp2_with fail
      go_loopg [8, 9, 10] n (fun gk s8 s9 s10 wy => ∃ k : Nat, k + gk = n ∧ s8 = .int .i64 (k : Int) ∧ Below w.heap.size w wy)
      case atStart => exact ⟨0, by omega, rfl, HBY.out⟩
      case round =>
        clear HON HBY
        obtain ⟨k, hk, rfl, hby⟩ := hrel
        have HBY := hid hby
        obtain ⟨cap, cup, ⟨c0, _, _, _, _⟩, _, _, _⟩ := (HI2.out.below hby).cells
        rw [← HTW.out.len, HNN.out] at c0
        cases gk with
        | zero =>
          have q1 : ¬ ((k : Int) < (n : Int)) := by omega
          have hwd := HI1.out.below hby
          have HU1 := wup_any hwd (-1)
          have HU2 := wup_any hwd (n : Int)
          rw [show upW s (-1) = false from by unfold upW; rw [if_neg (by omega)]] at HU1
          rw [show upW s (n : Int) = false from by unfold upW; rw [if_neg (by rw [HNN.out]; omega)]] at HU2
          have HO1 := wobjs_any hwd (HTW.out.seenlen (by omega)) (-1)
          rw [show objsW s (-1) = [] from by unfold objsW; rw [if_neg (by omega)]] at HO1
          unfold ptr at HU1 HU2 HO1
          have HWD := hid hwd
          have HC0 := hid c0
          clear hby hwd
          go_wp2_with fail
          refine HU1.mono ?_
          clear HU1
          rintro z w2 ⟨rfl, rfl⟩
          go_wp2_with fail
          refine HU2.mono ?_
          clear HU2
          rintro z w2 ⟨rfl, rfl⟩
          go_wp2_with fail
          refine HO1.mono ?_
          clear HO1
          rintro z w2 ⟨v1, rfl, hr1, hb1⟩
          obtain ⟨a1, d1, rfl⟩ := row_slice hr1
          have HO2 := wobjs_any (HWD.out.below hb1) (HTW.out.seenlen (by omega)) (n : Int)
          rw [show objsW s (n : Int) = [] from by unfold objsW; rw [if_neg (by rw [HNN.out]; omega)]] at HO2
          obtain ⟨cap3, cup3, ⟨c0', _, _, _, _⟩, _, _, _⟩ := ((HI2.out.below HBY.out).below hb1).cells
          rw [← HTW.out.len, HNN.out] at c0'
          unfold ptr at HO2
          have HB1 := hid hb1
          clear hr1 hb1 c0
          simp only [List.length_nil]
          go_wp2_with fail
          refine HO2.mono ?_
          clear HO2
          rintro z w3 ⟨v2, rfl, hr2, hb2⟩
          obtain ⟨a2, d2, rfl⟩ := row_slice hr2
          have HB2 := hid hb2
          clear hr2 hb2
          simp only [List.length_nil]
          go_wp2_with fail
          go_ret
          exact ⟨rfl, (HBY.out.trans (HB1.out.mono HBY.out.size)).trans (HB2.out.mono (Nat.le_trans HBY.out.size HB1.out.size))⟩
        | succ g3 =>
          have q1 : (k : Int) < (n : Int) := by omega
          have hk1 : k < n := by omega
          have hn1000 : n ≤ 1000 := HLEN.out
          obtain ⟨x, hx⟩ : ∃ x, s.l[k]? = some x := ⟨_, List.getElem?_eq_getElem (by rw [HNN.out]; exact hk1)⟩
          obtain ⟨y, hy, htw, _⟩ := HTW.out.other hx
          have HX := hid hx
          have HY := hid hy
          have HT := hid htw
          have HOB := wobjs_any (HI1.out.below hby) (HTW.out.seenlen (by omega)) (k : Int)
          rw [show objsW s (k : Int) = x.st.seen from by unfold objsW; rw [if_pos ⟨by omega, by rw [HNN.out]; omega⟩, Int.toNat_natCast, hx]] at HOB
          unfold ptr at HOB
          clear hx hy htw hby
          go_wp2_with fail
          refine HOB.mono ?_
          clear HOB
          rintro z w2 ⟨vl, rfl, hrl, hb2⟩
          have HRL := hid hrl
          have HB2 := hid hb2
          have hbw2 := HBY.out.trans (hb2.mono HBY.out.size)
          have HBW2 := hid hbw2
          obtain ⟨k0, _, _⟩ := (HI2.out.below hbw2).kept HY.out
          have hwd2 := HI1.out.below hbw2
          have hrd2 := HI2.out.below hbw2
          have HUP : Hid (∀ W', BelW w2 W' → Calls Tryz.prog 23 #[.pointer (some ⟨b, 0, none⟩), .int .i64 (k : Int)] W' fun e w' => e = .returned (.bool (!x.st.down)) ∧ w' = W') := hid fun W' hW => by
            have := wup_any (hwd2.below hW) (k : Int)
            rw [show upW s (k : Int) = !x.st.down from by unfold upW; rw [if_pos ⟨by omega, by rw [HNN.out]; omega⟩, Int.toNat_natCast, HX.out]] at this
            exact this
          have HRU : Hid (∀ W', BelW w2 W' → Calls Tryz.prog 46 #[ptr y.blk] W' fun e w' => e = .returned (.bool (!x.st.down)) ∧ w' = W') := hid fun W' hW => by
            obtain ⟨T, t1, _, _⟩ := (hrd2.below hW).call HY.out
            rw [← HT.out.down]
            exact refUp_any t1
          have HRO : Hid (∀ W', BelW w2 W' → Calls Tryz.prog 47 #[ptr y.blk] W' fun e w' => ∃ v, e = .returned v ∧ w'.ownsRow W'.heap.size 35 2 v x.st.seen.length (objCells x.st.seen) ∧ Below W'.heap.size W' w') := hid fun W' hW => by
            obtain ⟨T, t1, _, _⟩ := (hrd2.below hW).call HY.out
            have := refObjects_any t1 (Nat.le_trans HT.out.many (by omega))
            rw [HT.out.seen] at this
            exact this
          have HLT : Hid (c < w2.heap.size ∧ p.2.1 < w2.heap.size) := hid (by
            obtain ⟨_, _, _, _, _, _, _, _, h5, h6, _, h7⟩ := hrd2
            exact ⟨h7 _ h5, h7 _ h6⟩)
          clear hrl hb2 hbw2 hwd2 hrd2
          clear c0
          obtain ⟨cap3, cup3, ⟨c0, _, _, _, _⟩, _, _, _⟩ := (HI2.out.below HBW2.out).cells
          rw [← HTW.out.len, HNN.out] at c0
          go_wp2_with fail
          refine Tl.wp_mix_lit (by kernel_rfl) 25 [78, 79, 80, 81, 82, 83, 84, 85, 86, 87, 88, 89, 90, 91, 92, 93, 94, 95, 96, 97, 98, 99, 100, 101, 102] 143 rfl (by kernel_rfl) (BelW w2) (lkF14 b c p.2.1 n cap3 k y.blk (!x.st.down) vl x.st.seen) ((Below.refl _ _).drew)
            ⟨fun a' W' hC hF => ?_, fun a' W' hC hF => ?_, fun a' W' hC hF => ?_, fun a' W' hC hF => ?_, fun a' W' hC hF => ?_, fun a' W' hC hF => ?_, fun a' W' hC hF => ?_, fun a' W' hC hF => ?_, fun a' W' hC hF => ?_, fun a' W' hC hF => ?_, fun a' W' hC hF => ?_, fun a' W' hC hF => ?_, fun a' W' hC hF => ?_, fun a' W' hC hF => ?_, fun a' W' hC hF => ?_, fun a' W' hC hF => ?_, fun a' W' hC hF => ?_, fun a' W' hC hF => ?_, fun a' W' hC hF => ?_, fun a' W' hC hF => ?_, fun a' W' hC hF => ?_, fun a' W' hC hF => ?_, fun a' W' hC hF => ?_, fun a' W' hC hF => ?_, fun a' W' hC hF => ?_, trivial⟩ ?_
          · exact Tl.sm_v 78 _ rfl (Tl.wanted_none rfl) hC rfl (rn_move rfl ((hF 0 (by decide +kernel)).2 (by decide)))
          · exact Tl.sm_v 79 _ rfl (Tl.wanted_none rfl) hC rfl (rn_move rfl ((hF 8 (by decide +kernel)).2 (by decide)))
          · refine Tl.sm_call 23 #[_, _] (Tl.wanted_none rfl) (rn_call2 rfl rfl ((hF 78 (by decide +kernel)).1 (by decide)) ((hF 79 (by decide +kernel)).1 (by decide)) (enl23 _)) ((HUP.out _ hC).mono ?_)
            rintro e w'' ⟨rfl, rfl⟩
            exact ⟨_, rfl, hC, fun d v _ h => h, fun d hd => by cases hd; rfl⟩
          · exact Tl.sm_v 81 _ rfl (Tl.wanted_none rfl) hC rfl (rn_move rfl ((hF 1 (by decide +kernel)).2 (by decide)))
          · exact Tl.sm_v 82 _ rfl (Tl.wanted_none rfl) hC rfl (rn_nilCheck rfl ((hF 81 (by decide +kernel)).1 (by decide)))
          · exact Tl.sm_v 83 _ rfl (Tl.wanted_none rfl) hC rfl (rn_f70_0 rfl ((hF 82 (by decide +kernel)).1 (by decide)))
          · exact Tl.sm_v 84 _ rfl (Tl.wanted_none rfl) hC rfl (rn_load68 rfl ((hF 83 (by decide +kernel)).1 (by decide)) (BelW.cell hC (p := ⟨c, 0, none⟩) HLT.out.1 c0))
          · exact Tl.sm_v 85 _ rfl (Tl.wanted_none rfl) hC rfl (rn_move rfl ((hF 8 (by decide +kernel)).2 (by decide)))
          · exact Tl.sm_v 86 _ rfl (Tl.wanted_none rfl) hC rfl (rn_ix68 rfl ((hF 84 (by decide +kernel)).1 (by decide)) ((hF 85 (by decide +kernel)).1 (by decide)) hk1)
          · exact Tl.sm_v 87 _ rfl (Tl.wanted_none rfl) hC rfl (rn_load71 rfl ((hF 86 (by decide +kernel)).1 (by decide)) (BelW.cell hC (p := ⟨p.2.1, k, none⟩) HLT.out.2 k0))
          · refine Tl.sm_call 46 #[_] (Tl.wanted_none rfl) (rn_call1 rfl rfl ((hF 87 (by decide +kernel)).1 (by decide)) (enl46 _)) ((HRU.out _ hC).mono ?_)
            rintro e w'' ⟨rfl, rfl⟩
            exact ⟨_, rfl, hC, fun d v _ h => h, fun d hd => by cases hd; rfl⟩
          · exact Tl.sm_v 89 _ rfl (Tl.wanted_none rfl) hC rfl (rn_neq4 rfl ((hF 80 (by decide +kernel)).1 (by decide)) ((hF 88 (by decide +kernel)).1 (by decide)) (by simp))
          · exact Tl.sm_v 90 _ rfl (Tl.wanted_none rfl) hC rfl (rn_move rfl ((hF 89 (by decide +kernel)).1 (by decide)))
          · exact Tl.sm_v 91 _ rfl (Tl.wanted_is rfl rfl ((hF 90 (by decide +kernel)).1 (by decide))) hC rfl (rn_move rfl ((hF 9 (by decide +kernel)).2 (by decide)))
          · exact Tl.sm_v 92 _ rfl (Tl.wanted_is rfl rfl ((hF 90 (by decide +kernel)).1 (by decide))) hC rfl (rn_move rfl ((hF 1 (by decide +kernel)).2 (by decide)))
          · exact Tl.sm_v 93 _ rfl (Tl.wanted_is rfl rfl ((hF 90 (by decide +kernel)).1 (by decide))) hC rfl (rn_nilCheck rfl ((hF 92 (by decide +kernel)).1 (by decide)))
          · exact Tl.sm_v 94 _ rfl (Tl.wanted_is rfl rfl ((hF 90 (by decide +kernel)).1 (by decide))) hC rfl (rn_f70_0 rfl ((hF 93 (by decide +kernel)).1 (by decide)))
          · exact Tl.sm_v 95 _ rfl (Tl.wanted_is rfl rfl ((hF 90 (by decide +kernel)).1 (by decide))) hC rfl (rn_load68 rfl ((hF 94 (by decide +kernel)).1 (by decide)) (BelW.cell hC (p := ⟨c, 0, none⟩) HLT.out.1 c0))
          · exact Tl.sm_v 96 _ rfl (Tl.wanted_is rfl rfl ((hF 90 (by decide +kernel)).1 (by decide))) hC rfl (rn_move rfl ((hF 8 (by decide +kernel)).2 (by decide)))
          · exact Tl.sm_v 97 _ rfl (Tl.wanted_is rfl rfl ((hF 90 (by decide +kernel)).1 (by decide))) hC rfl (rn_ix68 rfl ((hF 95 (by decide +kernel)).1 (by decide)) ((hF 96 (by decide +kernel)).1 (by decide)) hk1)
          · exact Tl.sm_v 98 _ rfl (Tl.wanted_is rfl rfl ((hF 90 (by decide +kernel)).1 (by decide))) hC rfl (rn_load71 rfl ((hF 97 (by decide +kernel)).1 (by decide)) (BelW.cell hC (p := ⟨p.2.1, k, none⟩) HLT.out.2 k0))
          · refine Tl.sm_call 47 #[_] (Tl.wanted_is rfl rfl ((hF 90 (by decide +kernel)).1 (by decide))) (rn_call1 rfl rfl ((hF 98 (by decide +kernel)).1 (by decide)) (enl47 _)) ((HRO.out _ hC).mono ?_)
            rintro e w'' ⟨v9, rfl, r9, b9⟩
            exact ⟨_, rfl, Below.trans hC (b9.mono hC.size), fun d v _ h => lkF14_below h b9, fun d hd => by cases hd; exact ⟨_, r9⟩⟩
          · obtain ⟨B9, r9⟩ : ∃ B, W'.ownsRow B 35 2 (a'.tmps.getD 99 undef) x.st.seen.length (objCells x.st.seen) := (hF 99 (by decide +kernel)).1 (by decide)
            refine Tl.sm_call 21 #[_, _] (Tl.wanted_is rfl rfl ((hF 90 (by decide +kernel)).1 (by decide))) (rn_call2 rfl rfl ((hF 91 (by decide +kernel)).1 (by decide)) rfl (enl21 _)) ((sameObj_any (row_below HRL.out hC) r9).mono ?_)
            rintro e w'' ⟨rfl, b9⟩
            exact ⟨_, rfl, Below.trans hC (b9.mono hC.size), fun d v _ h => lkF14_below h b9, fun d hd => by cases hd; exact (by simp : Value.bool (decide (x.st.seen = x.st.seen)) = .bool true)⟩
          · exact Tl.sm_v 101 _ rfl (Tl.wanted_is rfl rfl ((hF 90 (by decide +kernel)).1 (by decide))) hC rfl (rn_not4 rfl ((hF 100 (by decide +kernel)).1 (by decide)) rfl)
          · exact Tl.sm_v 102 _ rfl (Tl.wanted_none rfl) hC rfl (rn_pickF rfl ((hF 90 (by decide +kernel)).1 (by decide)) ((hF 101 (by decide +kernel)).1 (by decide)))
          intro v wB hw hv
          have v102 : v 102 = .bool false := hv 102 (by decide)
          have HWB := hid (show Below w2.heap.size w2 wB from hw)
          clear hv hw
          simp only [Tl.fill, List.drop_succ_cons, List.drop_zero, wpList]
          simp only [Act.put, List.setIfInBounds_toArray, List.set_cons_succ, List.set_cons_zero, v102]
          clear v102 k0 c0
          have hrl2 := row_below HRL.out HWB.out
          obtain ⟨al, cl, rfl⟩ := row_slice hrl2
          have HR2 := hid hrl2
          obtain ⟨ml, hml⟩ : ∃ ml, x.st.seen.length = ml := ⟨_, rfl⟩
          have hml1 : ml ≤ 1000000 := by have := HT.out.len; omega
          rw [hml] at HR2
          have HBW3 := hid (show Below w.heap.size w wB from HBW2.out.trans (HWB.out.mono HBW2.out.size))
          have HWS := hid (show wr.heap.size ≤ wB.heap.size from Nat.le_trans HB2.out.size HWB.out.size)
          have H3 : Hid (0 < ml → ∃ g1 cur, al = some ⟨g1, 0, none⟩ ∧ Has wB g1 cur 35 ∧ ml * 2 ≤ cur.size) := hid fun h0 => by
            rcases HR2.out.2 with ⟨e, e2⟩ | ⟨g1, ca, cur, e1, _, hh, h4, _, h6, _⟩
            · cases e; omega
            · cases e1
              exact ⟨g1, cur, rfl, hh, by rw [h6]; omega⟩
          clear hrl2
          have HVL : Hid (∀ i, (Value.slice al ml cl).ownBlock = some i → w.heap.size ≤ i) := hid fun i hi => Nat.le_trans HBY.out.size (HR2.out.lt i hi).1
          rw [hml]
          clear hml
          go_wp2_with fail
          go_loopg [10] ml (fun gj s10 wz => ∃ j : Nat, j + gj = ml ∧ s10 = .int .i64 (j : Int) ∧ (0 < ml → ∃ g1 cur, al = some ⟨g1, 0, none⟩ ∧ Has wz g1 cur 35 ∧ ml * 2 ≤ cur.size) ∧ Only (fun i => (Value.slice al ml cl).ownBlock = some i) wB wz)
          case atStart => exact ⟨0, by omega, rfl, H3.out, Only.refl _ _⟩
          case round =>
            clear H3
            obtain ⟨j, hj, rfl, hin, hon⟩ := hrel
            have HON := hid hon
            cases gk with
            | zero =>
              have q5 : ¬ ((j : Int) < (ml : Int)) := by omega
              have HBZ := hid (HBW3.out.trans (hon.below HBW3.out.size HVL.out))
              clear hon hin
              go_wp2_with fail
              go_roundg g3
              case measure => omega
              case rel => exact ⟨k + 1, by omega, by first | rfl | simp, HBZ.out⟩
            | succ g4 =>
              have q5 : (j : Int) < (ml : Int) := by omega
              obtain ⟨g1, cur, rfl, hHas, hcs⟩ := hin (by omega)
              obtain ⟨u, hu⟩ : ∃ u, cur[j * 2 + 1]? = some u := ⟨_, Array.getElem?_eq_getElem (by omega)⟩
              have d0 : wr.cell? ⟨g1, j * 2 + 1, none⟩ = some u := by rw [hHas.cell (j * 2 + 1), hu]
              have y2 := hHas.frozen (j * 2 + 1)
              have HH := hid hHas
              have HCS := hid hcs
              clear hon hin hHas hu hcs
              go_wp2_with fail
              go_roundg g4
              case measure => omega
              case rel => exact ⟨j + 1, by omega, by first | rfl | simp, fun _ => ⟨g1, _, rfl, HH.out.set (j * 2 + 1) _, by simpa using HCS.out⟩, HON.out.set (p := ⟨g1, j * 2 + 1, none⟩) (.inl rfl) _⟩
    | succ g1' =>
      have q1 : (k : Int) < (m : Int) := by omega
      have hk1 : k < m := by omega
      obtain ⟨g1, cur, rfl, hHas, hcur⟩ := hin (by omega)
      obtain ⟨z, hz⟩ : ∃ z, L[k]? = some z := ⟨_, List.getElem?_eq_getElem (by rw [HM.out]; exact hk1)⟩
      have hzc : (intCells L)[k]? = some (.int .i64 (z : Int)) := by unfold intCells; rw [List.getElem?_map, hz]; rfl
      have d1 : wx.cell? ⟨g1, k, none⟩ = some (.int .i64 (z : Int)) := by rw [HRA2.out.cellAt k (by omega)]; exact hzc
      have hrb2 : wr.ownsRow w1.heap.size 3 1 (.slice ab m cb) m (intCells L) := row_block HRB.out fun k hk hl => hon.block k hl (fun e => by have := HVA.out k e; have := (HRB.out.lt k hk).1; omega)
      obtain ⟨g2, rfl⟩ : ∃ g2, ab = some ⟨g2, 0, none⟩ := by
        rcases row_form hrb2 with ⟨_, e, _⟩ | ⟨g2, c3, e, _⟩
        · omega
        · cases e; exact ⟨g2, rfl⟩
      have f0 : wr.cell? ⟨g2, k, none⟩ = some (.int .i64 (z : Int)) := by rw [hrb2.cellAt k (by omega)]; exact hzc
      have d0 : wr.cell? ⟨g1, k, none⟩ = some (.int .i64 (z : Int)) := by rw [hHas.cell k, hcur k (Nat.le_refl _), d1]
      have y2 := hHas.frozen k
      have HH := hid hHas
      have HC := hid hcur
      clear hon hin hHas hcur d1 hrb2 hz hzc
      go_wp2_with fail
      refine Tl.wp_mix_lit (by kernel_rfl) 9 [54, 55, 56, 57, 58, 59, 60, 61, 62] 143 rfl (by kernel_rfl) (AtW wr.drew) (lkF7 (.slice (some ⟨g1, 0, none⟩) m ca) (.slice (some ⟨g2, 0, none⟩) m cb) g1 g2 k z) rfl
        ⟨fun a' W' hC hF => ?_, fun a' W' hC hF => ?_, fun a' W' hC hF => ?_, fun a' W' hC hF => ?_, fun a' W' hC hF => ?_, fun a' W' hC hF => ?_, fun a' W' hC hF => ?_, fun a' W' hC hF => ?_, fun a' W' hC hF => ?_, trivial⟩ ?_
      · exact Tl.sm_v 54 _ rfl (Tl.wanted_none rfl) hC rfl (rn_move rfl ((hF 5 (by decide +kernel)).2 (by decide)))
      · exact Tl.sm_v 55 _ rfl (Tl.wanted_none rfl) hC rfl (rn_move rfl ((hF 7 (by decide +kernel)).2 (by decide)))
      · exact Tl.sm_v 56 _ rfl (Tl.wanted_none rfl) hC rfl (rn_ix43 rfl ((hF 54 (by decide +kernel)).1 (by decide)) ((hF 55 (by decide +kernel)).1 (by decide)) hk1)
      · exact Tl.sm_v 57 _ rfl (Tl.wanted_none rfl) hC rfl (rn_load3 rfl ((hF 56 (by decide +kernel)).1 (by decide)) (by rw [show W' = _ from hC]; exact d0))
      · exact Tl.sm_v 58 _ rfl (Tl.wanted_none rfl) hC rfl (rn_move rfl ((hF 6 (by decide +kernel)).2 (by decide)))
      · exact Tl.sm_v 59 _ rfl (Tl.wanted_none rfl) hC rfl (rn_move rfl ((hF 7 (by decide +kernel)).2 (by decide)))
      · exact Tl.sm_v 60 _ rfl (Tl.wanted_none rfl) hC rfl (rn_ix43 rfl ((hF 58 (by decide +kernel)).1 (by decide)) ((hF 59 (by decide +kernel)).1 (by decide)) hk1)
      · exact Tl.sm_v 61 _ rfl (Tl.wanted_none rfl) hC rfl (rn_load3 rfl ((hF 60 (by decide +kernel)).1 (by decide)) (by rw [show W' = _ from hC]; exact f0))
      · exact Tl.sm_v 62 _ rfl (Tl.wanted_none rfl) hC rfl (rn_neq3 rfl ((hF 57 (by decide +kernel)).1 (by decide)) ((hF 61 (by decide +kernel)).1 (by decide)) (by simp))
      intro v wB hw hv
      obtain rfl : wB = _ := hw
      have v62 : v 62 = .bool false := hv 62 (by decide)
      clear hv
      simp only [Tl.fill, List.drop_succ_cons, List.drop_zero, wpList]
      simp only [Act.put, List.setIfInBounds_toArray, List.set_cons_succ, List.set_cons_zero, v62]
      clear v62
      go_wp2_with fail
      go_roundg g1'
      case measure => omega
      case rel =>
        refine ⟨k + 1, by omega, by first | rfl | simp, fun _ => ⟨g1, _, rfl, (HH.out.below (Below.refl _ _).drew HH.out.lt).set k _, fun j hj => ?_⟩, (HON.out.drew).set (p := ⟨g1, k, none⟩) (.inl rfl) _⟩
        rw [Array.getElem?_setIfInBounds_ne (by omega)]
        exact HC.out j (by omega)
end Go.Proofs.YtgdiaflikfdnaaaGreat
/- A step is done to two worlds that need not tell the same. Printed by gen_e9.py. -/
namespace Go.Proofs.YtgdiaflikfdnaaaGreat
open Go.RowKit Go.Maps
def txF2 (v1 v2 : Value) (g1 g2 k : Nat) (p p2 : ByteArray) (i : Nat) (v : Value) (_ : World) : Prop := match i with
  | 17 => v = v1
  | 18 => v = .int .i64 (k : Int)
  | 19 => v = .pointer (some ⟨g1, k, none⟩)
  | 20 => v = .string p
  | 21 => v = v2
  | 22 => v = .int .i64 (k : Int)
  | 23 => v = .pointer (some ⟨g2, k, none⟩)
  | 24 => v = .string p2
  | 25 => v = .bool (!decide (p = p2))
  | _ => True
set_option maxHeartbeats 2000000 in
set_option maxRecDepth 20000 in
theorem texts_any2 {w : World} {B1 B2 : Nat} {v1 v2 : Value} {M M2 : List Ob} (h1 : w.ownsRow B1 9 1 v1 M.length (nameCells M)) (h2 : w.ownsRow B2 9 1 v2 M2.length (nameCells M2)) (hne : ∀ k, v1.ownBlock = some k → k < B2) (hM : M.length ≤ 1000000) (Q : Ending → World → Prop) (hq : ∀ z w', Only (fun i => v1.ownBlock = some i) w w' → Q (.returned (.bool z)) w') : Calls Tryz.prog 37 #[v1, v2] w Q := by
  have HQ := hid hq
  clear hq
  obtain ⟨a1, c1, rfl⟩ := row_slice h1
  obtain ⟨a2, c2, rfl⟩ := row_slice h2
  have H1 := hid h1
  have H2 := hid h2
  have HNE := hid hne
  clear h1 h2 hne
  generalize hL : M.length = L at *
  generalize hL2 : M2.length = L2 at *
  by_cases hll : L = L2
  case neg =>
    have q0 : ((L : Int) != (L2 : Int)) = true := by simpa using fun h => hll (by omega)
    clear hL hL2 hll
    go_enter Tryz.func37, Tryz.ntmps37
    go_wp2_with fail
    exact HQ.out _ _ (Only.refl _ _)
  subst hll
  have HL := hid hL
  have HL2 := hid hL2
  clear hL hL2
  have H0 : Hid (0 < L → ∃ g1 cur, a1 = some ⟨g1, 0, none⟩ ∧ Has w g1 cur 9 ∧ ∀ j, 0 ≤ j → cur[j]? = w.cell? ⟨g1, j, none⟩) := hid fun h0 => by
    rcases H1.out.2 with ⟨e, e2⟩ | ⟨g1, ca, cur, e1, _, hh, _⟩
    · cases e; omega
    · cases e1
      have hh' : Has w g1 cur 9 := hh
      exact ⟨g1, cur, rfl, hh', fun j _ => (hh'.cell j).symm⟩
  go_enter Tryz.func37, Tryz.ntmps37
  go_wp2_with fail
  go_loopg [5] L (fun gk s5 wx => ∃ k : Nat, k + gk = L ∧ s5 = .int .i64 (k : Int) ∧ (0 < L → ∃ g1 cur, a1 = some ⟨g1, 0, none⟩ ∧ Has wx g1 cur 9 ∧ ∀ j, k ≤ j → cur[j]? = w.cell? ⟨g1, j, none⟩) ∧ Only (fun i => (Value.slice a1 L c1).ownBlock = some i) w wx)
  case atStart => exact ⟨0, by omega, rfl, H0.out, Only.refl _ _⟩
  case round =>
    obtain ⟨k, hk, rfl, hin, hon⟩ := hrel
    have HON := hid hon
    cases gk with
    | zero =>
      have q1 : ¬ ((k : Int) < (L : Int)) := by omega
      clear hon hin
      go_wp2_with fail
      exact HQ.out _ _ HON.out
    | succ g1' =>
      have q1 : (k : Int) < (L : Int) := by omega
      have hk1 : k < L := by omega
      obtain ⟨g1, cur, rfl, hHas, hcur⟩ := hin (by omega)
      obtain ⟨p, hp⟩ : ∃ p, M[k]? = some p := ⟨_, List.getElem?_eq_getElem (by rw [HL.out]; exact hk1)⟩
      obtain ⟨g3, ca, ea, d1⟩ := names_cells (by rw [HL.out]; exact H1.out) hp
      rw [HL.out] at ea
      cases ea
      obtain ⟨p2, hp2⟩ : ∃ p, M2[k]? = some p := ⟨_, List.getElem?_eq_getElem (by rw [HL2.out]; exact hk1)⟩
      obtain ⟨g2, cb, eb, f0⟩ := names_cells (w := wr) (by rw [HL2.out]; exact row_block H2.out fun k hk hl => hon.block k hl (fun e => by have := HNE.out k e; have := (H2.out.lt k hk).1; omega)) hp2
      rw [HL2.out] at eb
      cases eb
      have d0 : wr.cell? ⟨g1, k, none⟩ = some (.string p.1) := by rw [hHas.cell k, hcur k (Nat.le_refl _), d1]
      have y2 := hHas.frozen k
      have HH := hid hHas
      have HC := hid hcur
      clear hp hp2 hon hin hHas hcur d1
      go_wp2_with fail
      refine Tl.wp_mix_lit (by kernel_rfl) 9 [17, 18, 19, 20, 21, 22, 23, 24, 25] 29 rfl (by kernel_rfl) (AtW wr.drew) (txF2 (.slice (some ⟨g1, 0, none⟩) L c1) (.slice (some ⟨g2, 0, none⟩) L c2) g1 g2 k p.1 p2.1) rfl
        ⟨fun a' W' hC hF => ?_, fun a' W' hC hF => ?_, fun a' W' hC hF => ?_, fun a' W' hC hF => ?_, fun a' W' hC hF => ?_, fun a' W' hC hF => ?_, fun a' W' hC hF => ?_, fun a' W' hC hF => ?_, fun a' W' hC hF => ?_, trivial⟩ ?_
      · exact Tl.sm_v 17 _ rfl (Tl.wanted_none rfl) hC rfl (rn_move rfl ((hF 0 (by decide +kernel)).2 (by decide)))
      · exact Tl.sm_v 18 _ rfl (Tl.wanted_none rfl) hC rfl (rn_move rfl ((hF 5 (by decide +kernel)).2 (by decide)))
      · exact Tl.sm_v 19 _ rfl (Tl.wanted_none rfl) hC rfl (rn_ix75n rfl ((hF 17 (by decide +kernel)).1 (by decide)) ((hF 18 (by decide +kernel)).1 (by decide)) hk1)
      · exact Tl.sm_v 20 _ rfl (Tl.wanted_none rfl) hC rfl (rn_load9 rfl ((hF 19 (by decide +kernel)).1 (by decide)) (by rw [show W' = _ from hC]; exact d0))
      · exact Tl.sm_v 21 _ rfl (Tl.wanted_none rfl) hC rfl (rn_move rfl ((hF 1 (by decide +kernel)).2 (by decide)))
      · exact Tl.sm_v 22 _ rfl (Tl.wanted_none rfl) hC rfl (rn_move rfl ((hF 5 (by decide +kernel)).2 (by decide)))
      · exact Tl.sm_v 23 _ rfl (Tl.wanted_none rfl) hC rfl (rn_ix75n rfl ((hF 21 (by decide +kernel)).1 (by decide)) ((hF 22 (by decide +kernel)).1 (by decide)) hk1)
      · exact Tl.sm_v 24 _ rfl (Tl.wanted_none rfl) hC rfl (rn_load9 rfl ((hF 23 (by decide +kernel)).1 (by decide)) (by rw [show W' = _ from hC]; exact f0))
      · exact Tl.sm_v 25 _ rfl (Tl.wanted_none rfl) hC rfl (rn_neq9 rfl ((hF 20 (by decide +kernel)).1 (by decide)) ((hF 24 (by decide +kernel)).1 (by decide)) (by simp))
      intro v wB hw hv
      obtain rfl : wB = _ := hw
      have v25 : v 25 = .bool (!decide (p.1 = p2.1)) := hv 25 (by decide)
      clear hv
      simp only [Tl.fill, List.drop_succ_cons, List.drop_zero, wpList]
      simp only [Act.put, List.setIfInBounds_toArray, List.set_cons_succ, List.set_cons_zero, v25]
      clear v25
      have HDR := hid (show Only (fun i => (Value.slice (some ⟨g1, 0, none⟩) L c1).ownBlock = some i) w wr.drew from HON.out.drew)
      rcases Bool.eq_false_or_eq_true (!decide (p.1 = p2.1)) with q9 | q9
      · rw [q9]
        go_wp2_with fail
        exact HQ.out _ _ HDR.out
      rw [q9]
      clear HDR
      go_wp2_with fail
      go_roundg g1'
      case measure => omega
      case rel =>
        refine ⟨k + 1, by omega, by first | rfl | simp, fun _ => ⟨g1, _, rfl, (HH.out.below (Below.refl _ _).drew HH.out.lt).set k _, fun j hj => ?_⟩, (HON.out.drew).set (p := ⟨g1, k, none⟩) (.inl rfl) _⟩
        rw [Array.getElem?_setIfInBounds_ne (by omega)]
        exact HC.out j (by omega)
set_option maxHeartbeats 8000000 in
set_option maxRecDepth 20000 in
theorem do_any2 {w0 w : World} {S : Nat → Prop} {b c N : Nat} {p : Nat × Nat × Nat} {s s0 : Wd} {r r0 : Rd} {x : Sp} (h : DP w S b c p s r) (ht : Pair N s r0) (ht2 : Pair N s0 r) (hN : N ≤ 100000) (hcl : s.calls ≤ 1000000) (hcr : r.calls ≤ 1000000) (hlen : s.l.length ≤ 1000) (hlen2 : r.l.length ≤ 1000) (hx : SpOk w0 x) (hb0 : Below w0.heap.size w0 w) (hS : ∀ i, S i → w0.heap.size ≤ i) (Q : Ending → World → Prop) (hq : ∀ z w', AfterP w w' S b c p (doW s x) (doD r x) → Q (.returned (.bool z)) w') : Calls Tryz.prog 12 #[.agg (spcells x).toArray, ptr b, ptr c] w Q := by
  obtain ⟨kd, i, nm, dt, lv, sv, fk, ft, fn, fa, fc⟩ := x
  have hf0 := hx.fk0
  have hf1 := hx.fk1
  have hf2 := hx.fn
  have hf3 := hx.fa
  have hk256 := hx.kd
  have hnm := hx.nm
  have hi63 := hx.i
  have HLV := hid hx.lv
  have HSL := hid hx.sl
  simp only at hf0 hf1 hf2 hf3 hk256 hnm hi63 HLV HSL
  clear hx
  unfold spcells
  unfold doW doD at hq
  simp only at hq
  simp only
  have HC := hid hcl
  have HCR : Hid (r.calls ≤ 1000000) := hid hcr
  have HLS := hid ht.wl
  have HLR := hid ht2.rl
  have HF := hid ht.fit
  have HN : Hid (N ≤ 1000000) := hid (by omega)
  have HSM := hid (ht2.small HN.out)
  have HNS : Hid (¬ S w.heap.size) := hid fun hS => by obtain ⟨_, _, _, _, _, _, _, h6⟩ := h; have := h6 _ hS; omega
  have HTW := hid ht
  have HLEN := hid hlen
  have HLEN2 := hid hlen2
  have HQ := hid hq
  have HB0 := hid hb0
  have HS0 := hid hS
  clear ht ht2 hcl hcr hlen hlen2 hb0 hS hq
  by_cases h0 : kd = 0
  · subst h0
    simp only [if_true] at HQ
    have HB := hid (boxed w (.cells #[.int .u8 0, .int .i64 i, .string nm, .string dt, lv, .int .u8 fk, .int .i64 ft, .int .i64 fn, .int .i64 fa, .int .i64 fc] 40))
    have HBX := hid (Has.new w w.heap.size #[.int .u8 0, .int .i64 i, .string nm, .string dt, lv, .int .u8 fk, .int .i64 ft, .int .i64 fn, .int .i64 fa, .int .i64 fc] 40 rfl)
    have HD := hid (h.below HB.out)
    have b0 := HBX.out.cell 0
    have b1 := HBX.out.cell 1
    have b2 := HBX.out.cell 2
    have b4 := HBX.out.cell 4
    obtain ⟨wa, hwa⟩ : ∃ wa, wa = w.alloc (.cells #[.int .u8 0, .int .i64 i, .string nm, .string dt, lv, .int .u8 fk, .int .i64 ft, .int .i64 fn, .int .i64 fa, .int .i64 fc] 40) := ⟨_, rfl⟩
    rw [← hwa] at HB HBX HD b0 b1 b2 b4
    unfold ptr
    go_enter Tryz.func12, Tryz.ntmps12
    go_wp2_with fail
    rw [← hwa]
    clear hwa
    refine Tl.wp_mixL_lit (by kernel_rfl) 13 [19, 20, 21, 22, 23, 24, 25, 26, 27, 28, 29, 30, 31] 151 rfl (by kernel_rfl) (Tl.Two 5 11 (fun W => AfterP wa W S b c p s r) (fun W => AfterP wa W S b c p (askS s i (fun s => putS s nm dt)).2 r) (fun W => AfterP wa W S b c p (askS s i (fun s => putS s nm dt)).2 (askD r i (fun r => putR r nm dt)).2)) (doF0 b c w.heap.size i nm dt fk ft fn fa fc (askS s i (fun s => putS s nm dt)).1 (askD r i (fun r => putR r nm dt)).1) (show Tl.Two _ _ _ _ _ _ _ from by unfold Tl.Two; rw [if_neg (by decide)]; exact (AfterP.refl HD.out).next (Below.refl _ _).drew)
      ⟨fun l a' W' hsz hl hcl hed hC hF => ?_, fun l a' W' hsz hl hcl hed hC hF => ?_, fun l a' W' hsz hl hcl hed hC hF => ?_, fun l a' W' hsz hl hcl hed hC hF => ?_, fun l a' W' hsz hl hcl hed hC hF => ?_, fun l a' W' hsz hl hcl hed hC hF => ?_, fun l a' W' hsz hl hcl hed hC hF => ?_, fun l a' W' hsz hl hcl hed hC hF => ?_, fun l a' W' hsz hl hcl hed hC hF => ?_, fun l a' W' hsz hl hcl hed hC hF => ?_, fun l a' W' hsz hl hcl hed hC hF => ?_, fun l a' W' hsz hl hcl hed hC hF => ?_, fun l a' W' hsz hl hcl hed hC hF => ?_, trivial⟩ ?_
    · exact Tl.sl_v 19 _ rfl (Tl.wanted_none rfl) (hC.other (by decide) (by decide)) rfl (rn_move rfl ((hF 1 (by decide +kernel)).2 (by decide)))
    · exact Tl.sl_v 20 _ rfl (Tl.wanted_none rfl) (hC.other (by decide) (by decide)) rfl (rn_f40_1 rfl ((hF 3 (by decide +kernel)).2 (by decide)))
    · exact Tl.sl_v 21 _ rfl (Tl.wanted_none rfl) (hC.other (by decide) (by decide)) rfl (rn_load3 rfl ((hF 20 (by decide +kernel)).1 (by decide)) ((hC.any (Y := fun W => Has W w.heap.size #[.int .u8 0, .int .i64 i, .string nm, .string dt, lv, .int .u8 fk, .int .i64 ft, .int .i64 fn, .int .i64 fa, .int .i64 fc] 40) (fun h => h.has HBX.out HNS.out) (fun h => h.has HBX.out HNS.out) (fun h => h.has HBX.out HNS.out)).cell 1))
    · exact Tl.sl_v 22 _ rfl (Tl.wanted_none rfl) (hC.other (by decide) (by decide)) rfl (rn_f40_2 rfl ((hF 3 (by decide +kernel)).2 (by decide)))
    · exact Tl.sl_v 23 _ rfl (Tl.wanted_none rfl) (hC.other (by decide) (by decide)) rfl (rn_load28 rfl ((hF 22 (by decide +kernel)).1 (by decide)) ((hC.any (Y := fun W => Has W w.heap.size #[.int .u8 0, .int .i64 i, .string nm, .string dt, lv, .int .u8 fk, .int .i64 ft, .int .i64 fn, .int .i64 fa, .int .i64 fc] 40) (fun h => h.has HBX.out HNS.out) (fun h => h.has HBX.out HNS.out) (fun h => h.has HBX.out HNS.out)).cell 2) ((hC.any (Y := fun W => Has W w.heap.size #[.int .u8 0, .int .i64 i, .string nm, .string dt, lv, .int .u8 fk, .int .i64 ft, .int .i64 fn, .int .i64 fa, .int .i64 fc] 40) (fun h => h.has HBX.out HNS.out) (fun h => h.has HBX.out HNS.out) (fun h => h.has HBX.out HNS.out)).cell 3))
    · obtain ⟨S1, k1, k2, k3⟩ := (hC.first hl).st
      refine Tl.sl_call 14 #[.pointer (some ⟨b, 0, none⟩), .int .i64 i, .agg #[.string nm, .string dt]] (Tl.wanted_none rfl) (rn_call3 rfl rfl ((hF 19 (by decide +kernel)).1 (by decide)) ((hF 21 (by decide +kernel)).1 (by decide)) ((hF 23 (by decide +kernel)).1 (by decide)) (enw14 _)) ((wput_any k1 HC.out HLS.out HF.out HN.out i nm dt).mono ?_)
      rintro e w'' ⟨rfl, ha⟩
      exact ⟨_, rfl, Tl.Two.did (by decide) hcl (by kernel_rfl) hl (by rw [hsz]; decide) (k3 _ _ ha), fun _ _ _ h => h, fun d hd => by cases hd; rfl⟩
    · exact Tl.sl_v 25 _ rfl (Tl.wanted_none rfl) (hC.other (by decide) (by decide)) rfl (rn_move rfl ((hF 2 (by decide +kernel)).2 (by decide)))
    · exact Tl.sl_v 26 _ rfl (Tl.wanted_none rfl) (hC.other (by decide) (by decide)) rfl (rn_f40_1 rfl ((hF 3 (by decide +kernel)).2 (by decide)))
    · exact Tl.sl_v 27 _ rfl (Tl.wanted_none rfl) (hC.other (by decide) (by decide)) rfl (rn_load3 rfl ((hF 26 (by decide +kernel)).1 (by decide)) ((hC.any (Y := fun W => Has W w.heap.size #[.int .u8 0, .int .i64 i, .string nm, .string dt, lv, .int .u8 fk, .int .i64 ft, .int .i64 fn, .int .i64 fa, .int .i64 fc] 40) (fun h => h.has HBX.out HNS.out) (fun h => h.has HBX.out HNS.out) (fun h => h.has HBX.out HNS.out)).cell 1))
    · exact Tl.sl_v 28 _ rfl (Tl.wanted_none rfl) (hC.other (by decide) (by decide)) rfl (rn_f40_2 rfl ((hF 3 (by decide +kernel)).2 (by decide)))
    · exact Tl.sl_v 29 _ rfl (Tl.wanted_none rfl) (hC.other (by decide) (by decide)) rfl (rn_load28 rfl ((hF 28 (by decide +kernel)).1 (by decide)) ((hC.any (Y := fun W => Has W w.heap.size #[.int .u8 0, .int .i64 i, .string nm, .string dt, lv, .int .u8 fk, .int .i64 ft, .int .i64 fn, .int .i64 fa, .int .i64 fc] 40) (fun h => h.has HBX.out HNS.out) (fun h => h.has HBX.out HNS.out) (fun h => h.has HBX.out HNS.out)).cell 2) ((hC.any (Y := fun W => Has W w.heap.size #[.int .u8 0, .int .i64 i, .string nm, .string dt, lv, .int .u8 fk, .int .i64 ft, .int .i64 fn, .int .i64 fa, .int .i64 fc] 40) (fun h => h.has HBX.out HNS.out) (fun h => h.has HBX.out HNS.out) (fun h => h.has HBX.out HNS.out)).cell 3))
    · obtain ⟨S1, k1, k2, k3⟩ := (hC.second (hed 5 (by kernel_rfl)) hl).rf
      refine Tl.sl_call 31 #[.pointer (some ⟨c, 0, none⟩), .int .i64 i, .agg #[.string nm, .string dt]] (Tl.wanted_none rfl) (rn_call3 rfl rfl ((hF 25 (by decide +kernel)).1 (by decide)) ((hF 27 (by decide +kernel)).1 (by decide)) ((hF 29 (by decide +kernel)).1 (by decide)) (enw31 _)) ((dput_any k1 HCR.out HLR.out HSM.out i nm dt).mono ?_)
      rintro e w'' ⟨rfl, ha⟩
      exact ⟨_, rfl, Tl.Two.both (by decide) (hed 5 (by kernel_rfl)) (by rw [hsz]; decide) (k3 _ _ ha), fun _ _ _ h => h, fun d hd => by cases hd; rfl⟩
    · exact Tl.sl_v 31 _ rfl (Tl.wanted_none rfl) (hC.other (by decide) (by decide)) rfl (rn_eql25 rfl ((hF 24 (by decide +kernel)).1 (by decide)) ((hF 30 (by decide +kernel)).1 (by decide)) rfl)
    intro k v W2 hk hC hv
    have hX2 := hC.last (hk 5 (by decide)) (hk 11 (by decide))
    have vv : v 31 = .bool (decide ((askS s i (fun s => putS s nm dt)).1 = (askD r i (fun r => putR r nm dt)).1)) := hv 31 (by decide)
    generalize decide ((askS s i (fun s => putS s nm dt)).1 = (askD r i (fun r => putR r nm dt)).1) = zz at vv
    have HX2 := hid (AfterP.front HB.out hX2)
    clear hk hC hv hX2
    simp only [Tl.fill, List.drop_succ_cons, List.drop_zero, wpList]
    rw [if_pos (Tl.wanted_none rfl)]
    simp only [Act.put, List.setIfInBounds_toArray, List.set_cons_succ, List.set_cons_zero, vv]
    clear vv
    refine .inl (wp_assign (x := .tmp 31) (d := 6) (v := .bool zz) ?_ ?_ ?_ ?_)
    · rfl
    · rfl
    · rfl
    simp only [Act.put, List.setIfInBounds_toArray, List.set_cons_succ, List.set_cons_zero]
    go_wp2_with fail
    exact HQ.out _ _ HX2.out
  have e0 : ((kd : Int) == 0) = false := beq_eq_false_iff_ne.2 (by omega)
  rw [if_neg h0, if_neg h0] at HQ
  by_cases h1 : kd = 1
  · subst h1
    simp only [if_true] at HQ
    have HB := hid (boxed w (.cells #[.int .u8 1, .int .i64 i, .string nm, .string dt, lv, .int .u8 fk, .int .i64 ft, .int .i64 fn, .int .i64 fa, .int .i64 fc] 40))
    have HBX := hid (Has.new w w.heap.size #[.int .u8 1, .int .i64 i, .string nm, .string dt, lv, .int .u8 fk, .int .i64 ft, .int .i64 fn, .int .i64 fa, .int .i64 fc] 40 rfl)
    have HD := hid (h.below HB.out)
    have b0 := HBX.out.cell 0
    have b1 := HBX.out.cell 1
    have b2 := HBX.out.cell 2
    have b4 := HBX.out.cell 4
    obtain ⟨wa, hwa⟩ : ∃ wa, wa = w.alloc (.cells #[.int .u8 1, .int .i64 i, .string nm, .string dt, lv, .int .u8 fk, .int .i64 ft, .int .i64 fn, .int .i64 fa, .int .i64 fc] 40) := ⟨_, rfl⟩
    rw [← hwa] at HB HBX HD b0 b1 b2 b4
    unfold ptr
    go_enter Tryz.func12, Tryz.ntmps12
    go_wp2_with fail
    rw [← hwa]
    clear hwa
    obtain ⟨S1, k1, _, k3⟩ := (AfterP.refl HD.out).st
    refine (wget_any k1 HC.out HLS.out i nm hnm).mono ?_
    rintro x w1 ⟨rfl, ha1⟩
    have HA1 := hid (k3 _ _ ha1)
    obtain ⟨T1, t1, _, t3⟩ := HA1.out.rf
    have HRG := dget_any t1 HCR.out HLR.out HSM.out i nm
    have hbx := HA1.out.has HBX.out HNS.out
    have b1' := hbx.cell 1
    have b2' := hbx.cell 2
    have HT3 := hid t3
    unfold er
    unfold ptr at HRG
    clear k1 k3 ha1 t1 t3 b0 b1 b2 b4 hbx
    generalize (getW s i nm).1 = d0 at *
    generalize (getW s i nm).2 = z0 at *
    generalize (getD' r i nm).1 = d1 at *
    generalize (getD' r i nm).2 = z1 at *
    go_wp2_with fail
    refine HRG.mono ?_
    clear HRG
    rintro x w2 ⟨rfl, ha2⟩
    have HA2 := hid (HT3.out _ _ ha2)
    clear ha2 HT3
    unfold er
    rcases Bool.eq_false_or_eq_true (d0.toList == d1.toList) with q1 | q1
    · go_wp2_with fail
      exact HQ.out _ _ (AfterP.front HB.out HA2.out)
    · go_wp2_with fail
      exact HQ.out _ _ (AfterP.front HB.out HA2.out)
  have e1 : ((kd : Int) == 1) = false := beq_eq_false_iff_ne.2 (by omega)
  rw [if_neg h1, if_neg h1] at HQ
  by_cases h2 : kd = 2
  · subst h2
    simp only [if_true] at HQ
    have HB := hid (boxed w (.cells #[.int .u8 2, .int .i64 i, .string nm, .string dt, lv, .int .u8 fk, .int .i64 ft, .int .i64 fn, .int .i64 fa, .int .i64 fc] 40))
    have HBX := hid (Has.new w w.heap.size #[.int .u8 2, .int .i64 i, .string nm, .string dt, lv, .int .u8 fk, .int .i64 ft, .int .i64 fn, .int .i64 fa, .int .i64 fc] 40 rfl)
    have HD := hid (h.below HB.out)
    have b0 := HBX.out.cell 0
    have b1 := HBX.out.cell 1
    have b2 := HBX.out.cell 2
    have b4 := HBX.out.cell 4
    obtain ⟨wa, hwa⟩ : ∃ wa, wa = w.alloc (.cells #[.int .u8 2, .int .i64 i, .string nm, .string dt, lv, .int .u8 fk, .int .i64 ft, .int .i64 fn, .int .i64 fa, .int .i64 fc] 40) := ⟨_, rfl⟩
    rw [← hwa] at HB HBX HD b0 b1 b2 b4
    unfold ptr
    go_enter Tryz.func12, Tryz.ntmps12
    go_wp2_with fail
    rw [← hwa]
    clear hwa
    refine Tl.wp_mixL_lit (by kernel_rfl) 15 [64, 65, 66, 67, 68, 69, 70, 71, 72, 73, 74, 75, 76, 77, 78] 151 rfl (by kernel_rfl) (Tl.Two 6 13 (fun W => AfterP wa W S b c p s r) (fun W => AfterP wa W S b c p (askS s i (fun s => delS s nm)).2 r) (fun W => AfterP wa W S b c p (askS s i (fun s => delS s nm)).2 (askD r i (fun r => delR r nm)).2)) (doF2 b c w.heap.size i nm dt fk ft fn fa fc (askS s i (fun s => delS s nm)).1 (askD r i (fun r => delR r nm)).1) (show Tl.Two _ _ _ _ _ _ _ from by unfold Tl.Two; rw [if_neg (by decide)]; exact (AfterP.refl HD.out).next (Below.refl _ _).drew)
      ⟨fun l a' W' hsz hl hcl hed hC hF => ?_, fun l a' W' hsz hl hcl hed hC hF => ?_, fun l a' W' hsz hl hcl hed hC hF => ?_, fun l a' W' hsz hl hcl hed hC hF => ?_, fun l a' W' hsz hl hcl hed hC hF => ?_, fun l a' W' hsz hl hcl hed hC hF => ?_, fun l a' W' hsz hl hcl hed hC hF => ?_, fun l a' W' hsz hl hcl hed hC hF => ?_, fun l a' W' hsz hl hcl hed hC hF => ?_, fun l a' W' hsz hl hcl hed hC hF => ?_, fun l a' W' hsz hl hcl hed hC hF => ?_, fun l a' W' hsz hl hcl hed hC hF => ?_, fun l a' W' hsz hl hcl hed hC hF => ?_, fun l a' W' hsz hl hcl hed hC hF => ?_, fun l a' W' hsz hl hcl hed hC hF => ?_, trivial⟩ ?_
    · exact Tl.sl_v 64 _ rfl (Tl.wanted_none rfl) (hC.other (by decide) (by decide)) rfl (rn_move rfl ((hF 1 (by decide +kernel)).2 (by decide)))
    · exact Tl.sl_v 65 _ rfl (Tl.wanted_none rfl) (hC.other (by decide) (by decide)) rfl (rn_f40_1 rfl ((hF 3 (by decide +kernel)).2 (by decide)))
    · exact Tl.sl_v 66 _ rfl (Tl.wanted_none rfl) (hC.other (by decide) (by decide)) rfl (rn_load3 rfl ((hF 65 (by decide +kernel)).1 (by decide)) ((hC.any (Y := fun W => Has W w.heap.size #[.int .u8 2, .int .i64 i, .string nm, .string dt, lv, .int .u8 fk, .int .i64 ft, .int .i64 fn, .int .i64 fa, .int .i64 fc] 40) (fun h => h.has HBX.out HNS.out) (fun h => h.has HBX.out HNS.out) (fun h => h.has HBX.out HNS.out)).cell 1))
    · exact Tl.sl_v 67 _ rfl (Tl.wanted_none rfl) (hC.other (by decide) (by decide)) rfl (rn_f40_2 rfl ((hF 3 (by decide +kernel)).2 (by decide)))
    · exact Tl.sl_v 68 _ rfl (Tl.wanted_none rfl) (hC.other (by decide) (by decide)) rfl (rn_f28_0 rfl ((hF 67 (by decide +kernel)).1 (by decide)))
    · exact Tl.sl_v 69 _ rfl (Tl.wanted_none rfl) (hC.other (by decide) (by decide)) rfl (rn_load9 rfl ((hF 68 (by decide +kernel)).1 (by decide)) ((hC.any (Y := fun W => Has W w.heap.size #[.int .u8 2, .int .i64 i, .string nm, .string dt, lv, .int .u8 fk, .int .i64 ft, .int .i64 fn, .int .i64 fa, .int .i64 fc] 40) (fun h => h.has HBX.out HNS.out) (fun h => h.has HBX.out HNS.out) (fun h => h.has HBX.out HNS.out)).cell 2))
    · obtain ⟨S1, k1, k2, k3⟩ := (hC.first hl).st
      refine Tl.sl_call 33 #[.pointer (some ⟨b, 0, none⟩), .int .i64 i, .string nm] (Tl.wanted_none rfl) (rn_call3 rfl rfl ((hF 64 (by decide +kernel)).1 (by decide)) ((hF 66 (by decide +kernel)).1 (by decide)) ((hF 69 (by decide +kernel)).1 (by decide)) (enw33 _)) ((wdel_any k1 HC.out HLS.out HF.out HN.out i nm hnm).mono ?_)
      rintro e w'' ⟨rfl, ha⟩
      exact ⟨_, rfl, Tl.Two.did (by decide) hcl (by kernel_rfl) hl (by rw [hsz]; decide) (k3 _ _ ha), fun _ _ _ h => h, fun d hd => by cases hd; rfl⟩
    · exact Tl.sl_v 71 _ rfl (Tl.wanted_none rfl) (hC.other (by decide) (by decide)) rfl (rn_move rfl ((hF 2 (by decide +kernel)).2 (by decide)))
    · exact Tl.sl_v 72 _ rfl (Tl.wanted_none rfl) (hC.other (by decide) (by decide)) rfl (rn_f40_1 rfl ((hF 3 (by decide +kernel)).2 (by decide)))
    · exact Tl.sl_v 73 _ rfl (Tl.wanted_none rfl) (hC.other (by decide) (by decide)) rfl (rn_load3 rfl ((hF 72 (by decide +kernel)).1 (by decide)) ((hC.any (Y := fun W => Has W w.heap.size #[.int .u8 2, .int .i64 i, .string nm, .string dt, lv, .int .u8 fk, .int .i64 ft, .int .i64 fn, .int .i64 fa, .int .i64 fc] 40) (fun h => h.has HBX.out HNS.out) (fun h => h.has HBX.out HNS.out) (fun h => h.has HBX.out HNS.out)).cell 1))
    · exact Tl.sl_v 74 _ rfl (Tl.wanted_none rfl) (hC.other (by decide) (by decide)) rfl (rn_f40_2 rfl ((hF 3 (by decide +kernel)).2 (by decide)))
    · exact Tl.sl_v 75 _ rfl (Tl.wanted_none rfl) (hC.other (by decide) (by decide)) rfl (rn_f28_0 rfl ((hF 74 (by decide +kernel)).1 (by decide)))
    · exact Tl.sl_v 76 _ rfl (Tl.wanted_none rfl) (hC.other (by decide) (by decide)) rfl (rn_load9 rfl ((hF 75 (by decide +kernel)).1 (by decide)) ((hC.any (Y := fun W => Has W w.heap.size #[.int .u8 2, .int .i64 i, .string nm, .string dt, lv, .int .u8 fk, .int .i64 ft, .int .i64 fn, .int .i64 fa, .int .i64 fc] 40) (fun h => h.has HBX.out HNS.out) (fun h => h.has HBX.out HNS.out) (fun h => h.has HBX.out HNS.out)).cell 2))
    · obtain ⟨S1, k1, k2, k3⟩ := (hC.second (hed 6 (by kernel_rfl)) hl).rf
      refine Tl.sl_call 34 #[.pointer (some ⟨c, 0, none⟩), .int .i64 i, .string nm] (Tl.wanted_none rfl) (rn_call3 rfl rfl ((hF 71 (by decide +kernel)).1 (by decide)) ((hF 73 (by decide +kernel)).1 (by decide)) ((hF 76 (by decide +kernel)).1 (by decide)) (enw34 _)) ((ddel_any k1 HCR.out HLR.out HSM.out i nm).mono ?_)
      rintro e w'' ⟨rfl, ha⟩
      exact ⟨_, rfl, Tl.Two.both (by decide) (hed 6 (by kernel_rfl)) (by rw [hsz]; decide) (k3 _ _ ha), fun _ _ _ h => h, fun d hd => by cases hd; rfl⟩
    · exact Tl.sl_v 78 _ rfl (Tl.wanted_none rfl) (hC.other (by decide) (by decide)) rfl (rn_eql25 rfl ((hF 70 (by decide +kernel)).1 (by decide)) ((hF 77 (by decide +kernel)).1 (by decide)) rfl)
    intro k v W2 hk hC hv
    have hX2 := hC.last (hk 6 (by decide)) (hk 13 (by decide))
    have vv : v 78 = .bool (decide ((askS s i (fun s => delS s nm)).1 = (askD r i (fun r => delR r nm)).1)) := hv 78 (by decide)
    generalize decide ((askS s i (fun s => delS s nm)).1 = (askD r i (fun r => delR r nm)).1) = zz at vv
    have HX2 := hid (AfterP.front HB.out hX2)
    clear hk hC hv hX2
    simp only [Tl.fill, List.drop_succ_cons, List.drop_zero, wpList]
    rw [if_pos (Tl.wanted_none rfl)]
    simp only [Act.put, List.setIfInBounds_toArray, List.set_cons_succ, List.set_cons_zero, vv]
    clear vv
    refine .inl (wp_assign (x := .tmp 78) (d := 6) (v := .bool zz) ?_ ?_ ?_ ?_)
    · rfl
    · rfl
    · rfl
    simp only [Act.put, List.setIfInBounds_toArray, List.set_cons_succ, List.set_cons_zero]
    go_wp2_with fail
    exact HQ.out _ _ HX2.out
  have e2 : ((kd : Int) == 2) = false := beq_eq_false_iff_ne.2 (by omega)
  rw [if_neg h2, if_neg h2] at HQ
  by_cases h3 : kd = 3
  · subst h3
    simp only [if_true] at HQ
    have HB := hid (boxed w (.cells #[.int .u8 3, .int .i64 i, .string nm, .string dt, lv, .int .u8 fk, .int .i64 ft, .int .i64 fn, .int .i64 fa, .int .i64 fc] 40))
    have HBX := hid (Has.new w w.heap.size #[.int .u8 3, .int .i64 i, .string nm, .string dt, lv, .int .u8 fk, .int .i64 ft, .int .i64 fn, .int .i64 fa, .int .i64 fc] 40 rfl)
    have HD := hid (h.below HB.out)
    have b0 := HBX.out.cell 0
    have b1 := HBX.out.cell 1
    have b2 := HBX.out.cell 2
    have b4 := HBX.out.cell 4
    obtain ⟨wa, hwa⟩ : ∃ wa, wa = w.alloc (.cells #[.int .u8 3, .int .i64 i, .string nm, .string dt, lv, .int .u8 fk, .int .i64 ft, .int .i64 fn, .int .i64 fa, .int .i64 fc] 40) := ⟨_, rfl⟩
    rw [← hwa] at HB HBX HD b0 b1 b2 b4
    unfold ptr
    go_enter Tryz.func12, Tryz.ntmps12
    go_wp2_with fail
    rw [← hwa]
    clear hwa
    have hML : (listW s i).1.length ≤ 1000000 := by
      unfold listW
      split
      · split
        · exact Nat.zero_le _
        · split
          · rename_i y hy
            split
            · exact Nat.zero_le _
            · rw [countW_l] at hy
              exact HTW.out.seenlen HN.out y (List.mem_of_getElem? hy)
          · exact Nat.zero_le _
      · exact Nat.zero_le _
    obtain ⟨S1, T1, k1, k2, k3⟩ := HD.out.listed
    refine (wlist_any2 k1 HC.out HLS.out (HTW.out.seenlen HN.out) i).mono ?_
    rintro x w1 ⟨v1, rfl, hr1, ha1⟩
    have hbx : Has w1 w.heap.size #[.int .u8 3, .int .i64 i, .string nm, .string dt, lv, .int .u8 fk, .int .i64 ft, .int .i64 fn, .int .i64 fa, .int .i64 fc] 40 := by
      obtain ⟨_, _, _, ho, _⟩ := ha1
      exact ho.has HBX.out fun hS1 => HNS.out (k2 _ hS1)
    have HW1 : Hid (wa.heap.size ≤ w1.heap.size) := hid (by obtain ⟨_, _, _, ho, _⟩ := ha1; exact ho.size)
    have b1' := hbx.cell 1
    obtain ⟨t1, t3⟩ := k3 w1 v1 _ ha1 (fun k hk => hr1.lt k hk)
    have HRL := dlist_any t1 HCR.out HLR.out HSM.out i
    have HR1 := hid hr1
    have HT3 := hid t3
    unfold er at *
    unfold ptr at HRL
    clear k1 k2 k3 ha1 t1 t3 hr1 b0 b1 b2 b4 hbx
    generalize (listW s i).1 = M at *
    generalize (listW s i).2 = z0 at *
    generalize (listD r i).1 = M2 at *
    generalize (listD r i).2 = z1 at *
    go_wp2_with fail
    refine HRL.mono ?_
    clear HRL
    rintro x w2 ⟨v2, rfl, hr2, ha2⟩
    obtain ⟨f1, f2⟩ := HT3.out _ _ ha2
    have hsz : w1.heap.size ≤ w2.heap.size := by obtain ⟨_, _, _, ho⟩ := ha2; exact ho.size
    have HTX := texts_any2 (row_block HR1.out fun k hk hl => f1 k hk) hr2 (fun k hk => (HR1.out.lt k hk).2) hML
    have HF2 := hid f2
    clear f1 f2 hr2 ha2 hsz HT3
    go_wp2_with fail
    refine HTX _ fun z w3 ho3 => ?_
    clear HTX
    have HA3 := hid (HF2.out _ ho3)
    clear ho3 HF2
    cases z
    · go_wp2_with fail
      exact HQ.out _ _ (AfterP.front HB.out HA3.out)
    · go_wp2_with fail
      exact HQ.out _ _ (AfterP.front HB.out HA3.out)
  have e3 : ((kd : Int) == 3) = false := beq_eq_false_iff_ne.2 (by omega)
  rw [if_neg h3, if_neg h3] at HQ
  by_cases h4 : kd = 4
  · subst h4
    simp only [if_true] at HQ
    have HB := hid (boxed w (.cells #[.int .u8 4, .int .i64 i, .string nm, .string dt, lv, .int .u8 fk, .int .i64 ft, .int .i64 fn, .int .i64 fa, .int .i64 fc] 40))
    have HBX := hid (Has.new w w.heap.size #[.int .u8 4, .int .i64 i, .string nm, .string dt, lv, .int .u8 fk, .int .i64 ft, .int .i64 fn, .int .i64 fa, .int .i64 fc] 40 rfl)
    have HD := hid (h.below HB.out)
    have b0 := HBX.out.cell 0
    have b1 := HBX.out.cell 1
    have b2 := HBX.out.cell 2
    have b4 := HBX.out.cell 4
    obtain ⟨wa, hwa⟩ : ∃ wa, wa = w.alloc (.cells #[.int .u8 4, .int .i64 i, .string nm, .string dt, lv, .int .u8 fk, .int .i64 ft, .int .i64 fn, .int .i64 fa, .int .i64 fc] 40) := ⟨_, rfl⟩
    rw [← hwa] at HB HBX HD b0 b1 b2 b4
    unfold ptr
    go_enter Tryz.func12, Tryz.ntmps12
    go_wp2_with fail
    rw [← hwa]
    clear hwa
    refine Tl.wp_mixL_lit (by kernel_rfl) 9 [105, 106, 107, 108, 109, 110, 111, 112, 113] 151 rfl (by kernel_rfl) (Tl.Two 3 7 (fun W => AfterP wa W S b c p s r) (fun W => AfterP wa W S b c p (askS s i sync).2 r) (fun W => AfterP wa W S b c p (askS s i sync).2 (askD r i syncR).2)) (doF4 b c w.heap.size i nm dt fk ft fn fa fc (askS s i sync).1 (askD r i syncR).1) (show Tl.Two _ _ _ _ _ _ _ from by unfold Tl.Two; rw [if_neg (by decide)]; exact (AfterP.refl HD.out).next (Below.refl _ _).drew)
      ⟨fun l a' W' hsz hl hcl hed hC hF => ?_, fun l a' W' hsz hl hcl hed hC hF => ?_, fun l a' W' hsz hl hcl hed hC hF => ?_, fun l a' W' hsz hl hcl hed hC hF => ?_, fun l a' W' hsz hl hcl hed hC hF => ?_, fun l a' W' hsz hl hcl hed hC hF => ?_, fun l a' W' hsz hl hcl hed hC hF => ?_, fun l a' W' hsz hl hcl hed hC hF => ?_, fun l a' W' hsz hl hcl hed hC hF => ?_, trivial⟩ ?_
    · exact Tl.sl_v 105 _ rfl (Tl.wanted_none rfl) (hC.other (by decide) (by decide)) rfl (rn_move rfl ((hF 1 (by decide +kernel)).2 (by decide)))
    · exact Tl.sl_v 106 _ rfl (Tl.wanted_none rfl) (hC.other (by decide) (by decide)) rfl (rn_f40_1 rfl ((hF 3 (by decide +kernel)).2 (by decide)))
    · exact Tl.sl_v 107 _ rfl (Tl.wanted_none rfl) (hC.other (by decide) (by decide)) rfl (rn_load3 rfl ((hF 106 (by decide +kernel)).1 (by decide)) ((hC.any (Y := fun W => Has W w.heap.size #[.int .u8 4, .int .i64 i, .string nm, .string dt, lv, .int .u8 fk, .int .i64 ft, .int .i64 fn, .int .i64 fa, .int .i64 fc] 40) (fun h => h.has HBX.out HNS.out) (fun h => h.has HBX.out HNS.out) (fun h => h.has HBX.out HNS.out)).cell 1))
    · obtain ⟨S1, k1, k2, k3⟩ := (hC.first hl).st
      refine Tl.sl_call 15 #[.pointer (some ⟨b, 0, none⟩), .int .i64 i] (Tl.wanted_none rfl) (rn_call2 rfl rfl ((hF 105 (by decide +kernel)).1 (by decide)) ((hF 107 (by decide +kernel)).1 (by decide)) (enw15 _)) ((wsync_any k1 HC.out HLS.out i).mono ?_)
      rintro e w'' ⟨rfl, ha⟩
      exact ⟨_, rfl, Tl.Two.did (by decide) hcl (by kernel_rfl) hl (by rw [hsz]; decide) (k3 _ _ ha), fun _ _ _ h => h, fun d hd => by cases hd; rfl⟩
    · exact Tl.sl_v 109 _ rfl (Tl.wanted_none rfl) (hC.other (by decide) (by decide)) rfl (rn_move rfl ((hF 2 (by decide +kernel)).2 (by decide)))
    · exact Tl.sl_v 110 _ rfl (Tl.wanted_none rfl) (hC.other (by decide) (by decide)) rfl (rn_f40_1 rfl ((hF 3 (by decide +kernel)).2 (by decide)))
    · exact Tl.sl_v 111 _ rfl (Tl.wanted_none rfl) (hC.other (by decide) (by decide)) rfl (rn_load3 rfl ((hF 110 (by decide +kernel)).1 (by decide)) ((hC.any (Y := fun W => Has W w.heap.size #[.int .u8 4, .int .i64 i, .string nm, .string dt, lv, .int .u8 fk, .int .i64 ft, .int .i64 fn, .int .i64 fa, .int .i64 fc] 40) (fun h => h.has HBX.out HNS.out) (fun h => h.has HBX.out HNS.out) (fun h => h.has HBX.out HNS.out)).cell 1))
    · obtain ⟨S1, k1, k2, k3⟩ := (hC.second (hed 3 (by kernel_rfl)) hl).rf
      refine Tl.sl_call 38 #[.pointer (some ⟨c, 0, none⟩), .int .i64 i] (Tl.wanted_none rfl) (rn_call2 rfl rfl ((hF 109 (by decide +kernel)).1 (by decide)) ((hF 111 (by decide +kernel)).1 (by decide)) (enw38 _)) ((dsync_any k1 HCR.out HLR.out HSM.out i).mono ?_)
      rintro e w'' ⟨rfl, ha⟩
      exact ⟨_, rfl, Tl.Two.both (by decide) (hed 3 (by kernel_rfl)) (by rw [hsz]; decide) (k3 _ _ ha), fun _ _ _ h => h, fun d hd => by cases hd; rfl⟩
    · exact Tl.sl_v 113 _ rfl (Tl.wanted_none rfl) (hC.other (by decide) (by decide)) rfl (rn_eql25 rfl ((hF 108 (by decide +kernel)).1 (by decide)) ((hF 112 (by decide +kernel)).1 (by decide)) rfl)
    intro k v W2 hk hC hv
    have hX2 := hC.last (hk 3 (by decide)) (hk 7 (by decide))
    have vv : v 113 = .bool (decide ((askS s i sync).1 = (askD r i syncR).1)) := hv 113 (by decide)
    generalize decide ((askS s i sync).1 = (askD r i syncR).1) = zz at vv
    have HX2 := hid (AfterP.front HB.out hX2)
    clear hk hC hv hX2
    simp only [Tl.fill, List.drop_succ_cons, List.drop_zero, wpList]
    rw [if_pos (Tl.wanted_none rfl)]
    simp only [Act.put, List.setIfInBounds_toArray, List.set_cons_succ, List.set_cons_zero, vv]
    clear vv
    refine .inl (wp_assign (x := .tmp 113) (d := 6) (v := .bool zz) ?_ ?_ ?_ ?_)
    · rfl
    · rfl
    · rfl
    simp only [Act.put, List.setIfInBounds_toArray, List.set_cons_succ, List.set_cons_zero]
    go_wp2_with fail
    exact HQ.out _ _ HX2.out
  have e4 : ((kd : Int) == 4) = false := beq_eq_false_iff_ne.2 (by omega)
  rw [if_neg h4, if_neg h4] at HQ
  by_cases h5 : kd = 5
  · subst h5
    simp only [if_true] at HQ
    have HB := hid (boxed w (.cells #[.int .u8 5, .int .i64 i, .string nm, .string dt, lv, .int .u8 fk, .int .i64 ft, .int .i64 fn, .int .i64 fa, .int .i64 fc] 40))
    have HBX := hid (Has.new w w.heap.size #[.int .u8 5, .int .i64 i, .string nm, .string dt, lv, .int .u8 fk, .int .i64 ft, .int .i64 fn, .int .i64 fa, .int .i64 fc] 40 rfl)
    have HD := hid (h.below HB.out)
    have b0 := HBX.out.cell 0
    have b1 := HBX.out.cell 1
    have b2 := HBX.out.cell 2
    have b4 := HBX.out.cell 4
    obtain ⟨wa, hwa⟩ : ∃ wa, wa = w.alloc (.cells #[.int .u8 5, .int .i64 i, .string nm, .string dt, lv, .int .u8 fk, .int .i64 ft, .int .i64 fn, .int .i64 fa, .int .i64 fc] 40) := ⟨_, rfl⟩
    rw [← hwa] at HB HBX HD b0 b1 b2 b4
    unfold ptr
    go_enter Tryz.func12, Tryz.ntmps12
    go_wp2_with fail
    rw [← hwa]
    clear hwa
    refine Tl.wp_mixL_lit (by kernel_rfl) 9 [116, 117, 118, 119, 120, 121, 122, 123, 124] 151 rfl (by kernel_rfl) (Tl.Two 3 7 (fun W => AfterP wa W S b c p s r) (fun W => AfterP wa W S b c p (cutW s i).2 r) (fun W => AfterP wa W S b c p (cutW s i).2 (cutD r i).2)) (doF5 b c w.heap.size i nm dt fk ft fn fa fc (cutW s i).1 (cutD r i).1) (show Tl.Two _ _ _ _ _ _ _ from by unfold Tl.Two; rw [if_neg (by decide)]; exact (AfterP.refl HD.out).next (Below.refl _ _).drew)
      ⟨fun l a' W' hsz hl hcl hed hC hF => ?_, fun l a' W' hsz hl hcl hed hC hF => ?_, fun l a' W' hsz hl hcl hed hC hF => ?_, fun l a' W' hsz hl hcl hed hC hF => ?_, fun l a' W' hsz hl hcl hed hC hF => ?_, fun l a' W' hsz hl hcl hed hC hF => ?_, fun l a' W' hsz hl hcl hed hC hF => ?_, fun l a' W' hsz hl hcl hed hC hF => ?_, fun l a' W' hsz hl hcl hed hC hF => ?_, trivial⟩ ?_
    · exact Tl.sl_v 116 _ rfl (Tl.wanted_none rfl) (hC.other (by decide) (by decide)) rfl (rn_move rfl ((hF 1 (by decide +kernel)).2 (by decide)))
    · exact Tl.sl_v 117 _ rfl (Tl.wanted_none rfl) (hC.other (by decide) (by decide)) rfl (rn_f40_1 rfl ((hF 3 (by decide +kernel)).2 (by decide)))
    · exact Tl.sl_v 118 _ rfl (Tl.wanted_none rfl) (hC.other (by decide) (by decide)) rfl (rn_load3 rfl ((hF 117 (by decide +kernel)).1 (by decide)) ((hC.any (Y := fun W => Has W w.heap.size #[.int .u8 5, .int .i64 i, .string nm, .string dt, lv, .int .u8 fk, .int .i64 ft, .int .i64 fn, .int .i64 fa, .int .i64 fc] 40) (fun h => h.has HBX.out HNS.out) (fun h => h.has HBX.out HNS.out) (fun h => h.has HBX.out HNS.out)).cell 1))
    · obtain ⟨S1, k1, k2, k3⟩ := (hC.first hl).st
      refine Tl.sl_call 18 #[.pointer (some ⟨b, 0, none⟩), .int .i64 i] (Tl.wanted_none rfl) (rn_call2 rfl rfl ((hF 116 (by decide +kernel)).1 (by decide)) ((hF 118 (by decide +kernel)).1 (by decide)) (enw18 _)) ((cut_any k1 i).mono ?_)
      rintro e w'' ⟨rfl, ha⟩
      exact ⟨_, rfl, Tl.Two.did (by decide) hcl (by kernel_rfl) hl (by rw [hsz]; decide) (k3 _ _ ha), fun _ _ _ h => h, fun d hd => by cases hd; rfl⟩
    · exact Tl.sl_v 120 _ rfl (Tl.wanted_none rfl) (hC.other (by decide) (by decide)) rfl (rn_move rfl ((hF 2 (by decide +kernel)).2 (by decide)))
    · exact Tl.sl_v 121 _ rfl (Tl.wanted_none rfl) (hC.other (by decide) (by decide)) rfl (rn_f40_1 rfl ((hF 3 (by decide +kernel)).2 (by decide)))
    · exact Tl.sl_v 122 _ rfl (Tl.wanted_none rfl) (hC.other (by decide) (by decide)) rfl (rn_load3 rfl ((hF 121 (by decide +kernel)).1 (by decide)) ((hC.any (Y := fun W => Has W w.heap.size #[.int .u8 5, .int .i64 i, .string nm, .string dt, lv, .int .u8 fk, .int .i64 ft, .int .i64 fn, .int .i64 fa, .int .i64 fc] 40) (fun h => h.has HBX.out HNS.out) (fun h => h.has HBX.out HNS.out) (fun h => h.has HBX.out HNS.out)).cell 1))
    · obtain ⟨S1, k1, k2, k3⟩ := (hC.second (hed 3 (by kernel_rfl)) hl).rf
      refine Tl.sl_call 39 #[.pointer (some ⟨c, 0, none⟩), .int .i64 i] (Tl.wanted_none rfl) (rn_call2 rfl rfl ((hF 120 (by decide +kernel)).1 (by decide)) ((hF 122 (by decide +kernel)).1 (by decide)) (enw39 _)) ((dcut_any k1 i).mono ?_)
      rintro e w'' ⟨rfl, ha⟩
      exact ⟨_, rfl, Tl.Two.both (by decide) (hed 3 (by kernel_rfl)) (by rw [hsz]; decide) (k3 _ _ ha), fun _ _ _ h => h, fun d hd => by cases hd; rfl⟩
    · exact Tl.sl_v 124 _ rfl (Tl.wanted_none rfl) (hC.other (by decide) (by decide)) rfl (rn_eql25 rfl ((hF 119 (by decide +kernel)).1 (by decide)) ((hF 123 (by decide +kernel)).1 (by decide)) rfl)
    intro k v W2 hk hC hv
    have hX2 := hC.last (hk 3 (by decide)) (hk 7 (by decide))
    have vv : v 124 = .bool (decide ((cutW s i).1 = (cutD r i).1)) := hv 124 (by decide)
    generalize decide ((cutW s i).1 = (cutD r i).1) = zz at vv
    have HX2 := hid (AfterP.front HB.out hX2)
    clear hk hC hv hX2
    simp only [Tl.fill, List.drop_succ_cons, List.drop_zero, wpList]
    rw [if_pos (Tl.wanted_none rfl)]
    simp only [Act.put, List.setIfInBounds_toArray, List.set_cons_succ, List.set_cons_zero, vv]
    clear vv
    refine .inl (wp_assign (x := .tmp 124) (d := 6) (v := .bool zz) ?_ ?_ ?_ ?_)
    · rfl
    · rfl
    · rfl
    simp only [Act.put, List.setIfInBounds_toArray, List.set_cons_succ, List.set_cons_zero]
    go_wp2_with fail
    exact HQ.out _ _ HX2.out
  have e5 : ((kd : Int) == 5) = false := beq_eq_false_iff_ne.2 (by omega)
  rw [if_neg h5, if_neg h5] at HQ
  by_cases h6 : kd = 6
  · subst h6
    simp only [if_true] at HQ
    have HB := hid (boxed w (.cells #[.int .u8 6, .int .i64 i, .string nm, .string dt, lv, .int .u8 fk, .int .i64 ft, .int .i64 fn, .int .i64 fa, .int .i64 fc] 40))
    have HBX := hid (Has.new w w.heap.size #[.int .u8 6, .int .i64 i, .string nm, .string dt, lv, .int .u8 fk, .int .i64 ft, .int .i64 fn, .int .i64 fa, .int .i64 fc] 40 rfl)
    have HD := hid (h.below HB.out)
    have b0 := HBX.out.cell 0
    have b1 := HBX.out.cell 1
    have b2 := HBX.out.cell 2
    have b4 := HBX.out.cell 4
    obtain ⟨wa, hwa⟩ : ∃ wa, wa = w.alloc (.cells #[.int .u8 6, .int .i64 i, .string nm, .string dt, lv, .int .u8 fk, .int .i64 ft, .int .i64 fn, .int .i64 fa, .int .i64 fc] 40) := ⟨_, rfl⟩
    rw [← hwa] at HB HBX HD b0 b1 b2 b4
    unfold ptr
    go_enter Tryz.func12, Tryz.ntmps12
    go_wp2_with fail
    rw [← hwa]
    clear hwa
    obtain ⟨T1, t1, t2, t3⟩ := (AfterP.refl HD.out).rf
    have hba : Below w0.heap.size w0 wa := HB0.out.trans (HB.out.mono HB0.out.size)
    have hin : ∀ i, (S i ∨ wa.heap.size ≤ i) → w0.heap.size ≤ i := fun i hi => hi.elim (HS0.out i) fun h => Nat.le_trans hba.size h
    refine (dcrash_any t1 HLEN2.out (fun x hx => (HSM.out x hx).1) hba (fun i hi => hin i (t2 i hi)) lv sv HLV.out HSL.out).mono ?_
    rintro x w1 ⟨rfl, ha1⟩
    have HA1 := hid (t3 _ _ ha1)
    obtain ⟨S1, k1, k2, k3⟩ := HA1.out.st
    have HCR := wcrash_any k1 HLEN.out HTW.out.fit2 (Nat.le_trans hN (by decide)) (HA1.out.low hba HS0.out) (fun i hi => hin i (k2 i hi)) lv sv HLV.out HSL.out
    have b4' := (HA1.out.has HBX.out HNS.out).cell 4
    have HK3 := hid k3
    unfold er ptr at HCR
    clear t1 t2 t3 ha1 k1 k2 k3 hba hin b0 b1 b2 b4
    go_wp2_with fail
    refine HCR.mono ?_
    clear HCR
    rintro x w2 ⟨rfl, ha2⟩
    have HA2 := hid (HK3.out _ _ ha2)
    clear ha2 HK3
    go_wp2_with fail
    exact HQ.out _ _ (AfterP.front HB.out HA2.out)
  have e6 : ((kd : Int) == 6) = false := beq_eq_false_iff_ne.2 (by omega)
  rw [if_neg h6, if_neg h6] at HQ
  by_cases h7 : kd = 7
  · subst h7
    simp only [if_true] at HQ
    have HB := hid (boxed w (.cells #[.int .u8 7, .int .i64 i, .string nm, .string dt, lv, .int .u8 fk, .int .i64 ft, .int .i64 fn, .int .i64 fa, .int .i64 fc] 40))
    have HBX := hid (Has.new w w.heap.size #[.int .u8 7, .int .i64 i, .string nm, .string dt, lv, .int .u8 fk, .int .i64 ft, .int .i64 fn, .int .i64 fa, .int .i64 fc] 40 rfl)
    have HD := hid (h.below HB.out)
    have b0 := HBX.out.cell 0
    have b1 := HBX.out.cell 1
    have b2 := HBX.out.cell 2
    have b4 := HBX.out.cell 4
    obtain ⟨wa, hwa⟩ : ∃ wa, wa = w.alloc (.cells #[.int .u8 7, .int .i64 i, .string nm, .string dt, lv, .int .u8 fk, .int .i64 ft, .int .i64 fn, .int .i64 fa, .int .i64 fc] 40) := ⟨_, rfl⟩
    rw [← hwa] at HB HBX HD b0 b1 b2 b4
    unfold ptr
    go_enter Tryz.func12, Tryz.ntmps12
    go_wp2_with fail
    rw [← hwa]
    clear hwa
    refine Tl.wp_mixL_lit (by kernel_rfl) 9 [138, 139, 140, 141, 142, 143, 144, 145, 146] 151 rfl (by kernel_rfl) (Tl.Two 3 7 (fun W => AfterP wa W S b c p s r) (fun W => AfterP wa W S b c p (strikeW s fk ft fn fa fc).2 r) (fun W => AfterP wa W S b c p (strikeW s fk ft fn fa fc).2 (strikeD r fk ft fn fa fc).2)) (doF7 b c w.heap.size i nm dt fk ft fn fa fc (strikeW s fk ft fn fa fc).1 (strikeD r fk ft fn fa fc).1) (show Tl.Two _ _ _ _ _ _ _ from by unfold Tl.Two; rw [if_neg (by decide)]; exact (AfterP.refl HD.out).next (Below.refl _ _).drew)
      ⟨fun l a' W' hsz hl hcl hed hC hF => ?_, fun l a' W' hsz hl hcl hed hC hF => ?_, fun l a' W' hsz hl hcl hed hC hF => ?_, fun l a' W' hsz hl hcl hed hC hF => ?_, fun l a' W' hsz hl hcl hed hC hF => ?_, fun l a' W' hsz hl hcl hed hC hF => ?_, fun l a' W' hsz hl hcl hed hC hF => ?_, fun l a' W' hsz hl hcl hed hC hF => ?_, fun l a' W' hsz hl hcl hed hC hF => ?_, trivial⟩ ?_
    · exact Tl.sl_v 138 _ rfl (Tl.wanted_none rfl) (hC.other (by decide) (by decide)) rfl (rn_move rfl ((hF 1 (by decide +kernel)).2 (by decide)))
    · exact Tl.sl_v 139 _ rfl (Tl.wanted_none rfl) (hC.other (by decide) (by decide)) rfl (rn_f40_4 rfl ((hF 3 (by decide +kernel)).2 (by decide)))
    · exact Tl.sl_v 140 _ rfl (Tl.wanted_none rfl) (hC.other (by decide) (by decide)) rfl (rn_load32 rfl ((hF 139 (by decide +kernel)).1 (by decide)) ((hC.any (Y := fun W => Has W w.heap.size #[.int .u8 7, .int .i64 i, .string nm, .string dt, lv, .int .u8 fk, .int .i64 ft, .int .i64 fn, .int .i64 fa, .int .i64 fc] 40) (fun h => h.has HBX.out HNS.out) (fun h => h.has HBX.out HNS.out) (fun h => h.has HBX.out HNS.out)).cell 5) ((hC.any (Y := fun W => Has W w.heap.size #[.int .u8 7, .int .i64 i, .string nm, .string dt, lv, .int .u8 fk, .int .i64 ft, .int .i64 fn, .int .i64 fa, .int .i64 fc] 40) (fun h => h.has HBX.out HNS.out) (fun h => h.has HBX.out HNS.out) (fun h => h.has HBX.out HNS.out)).cell 6) ((hC.any (Y := fun W => Has W w.heap.size #[.int .u8 7, .int .i64 i, .string nm, .string dt, lv, .int .u8 fk, .int .i64 ft, .int .i64 fn, .int .i64 fa, .int .i64 fc] 40) (fun h => h.has HBX.out HNS.out) (fun h => h.has HBX.out HNS.out) (fun h => h.has HBX.out HNS.out)).cell 7) ((hC.any (Y := fun W => Has W w.heap.size #[.int .u8 7, .int .i64 i, .string nm, .string dt, lv, .int .u8 fk, .int .i64 ft, .int .i64 fn, .int .i64 fa, .int .i64 fc] 40) (fun h => h.has HBX.out HNS.out) (fun h => h.has HBX.out HNS.out) (fun h => h.has HBX.out HNS.out)).cell 8) ((hC.any (Y := fun W => Has W w.heap.size #[.int .u8 7, .int .i64 i, .string nm, .string dt, lv, .int .u8 fk, .int .i64 ft, .int .i64 fn, .int .i64 fa, .int .i64 fc] 40) (fun h => h.has HBX.out HNS.out) (fun h => h.has HBX.out HNS.out) (fun h => h.has HBX.out HNS.out)).cell 9))
    · obtain ⟨S1, k1, k2, k3⟩ := (hC.first hl).st
      refine Tl.sl_call 41 #[.pointer (some ⟨b, 0, none⟩), .agg #[.int .u8 fk, .int .i64 ft, .int .i64 fn, .int .i64 fa, .int .i64 fc]] (Tl.wanted_none rfl) (rn_call2 rfl rfl ((hF 138 (by decide +kernel)).1 (by decide)) ((hF 140 (by decide +kernel)).1 (by decide)) (enw41 _)) ((wstrike_any k1 HF.out HN.out fk ft fn fa fc hf0 hf1 hf2 hf3).mono ?_)
      rintro e w'' ⟨rfl, ha⟩
      exact ⟨_, rfl, Tl.Two.did (by decide) hcl (by kernel_rfl) hl (by rw [hsz]; decide) (k3 _ _ ha), fun _ _ _ h => h, fun d hd => by cases hd; rfl⟩
    · exact Tl.sl_v 142 _ rfl (Tl.wanted_none rfl) (hC.other (by decide) (by decide)) rfl (rn_move rfl ((hF 2 (by decide +kernel)).2 (by decide)))
    · exact Tl.sl_v 143 _ rfl (Tl.wanted_none rfl) (hC.other (by decide) (by decide)) rfl (rn_f40_4 rfl ((hF 3 (by decide +kernel)).2 (by decide)))
    · exact Tl.sl_v 144 _ rfl (Tl.wanted_none rfl) (hC.other (by decide) (by decide)) rfl (rn_load32 rfl ((hF 143 (by decide +kernel)).1 (by decide)) ((hC.any (Y := fun W => Has W w.heap.size #[.int .u8 7, .int .i64 i, .string nm, .string dt, lv, .int .u8 fk, .int .i64 ft, .int .i64 fn, .int .i64 fa, .int .i64 fc] 40) (fun h => h.has HBX.out HNS.out) (fun h => h.has HBX.out HNS.out) (fun h => h.has HBX.out HNS.out)).cell 5) ((hC.any (Y := fun W => Has W w.heap.size #[.int .u8 7, .int .i64 i, .string nm, .string dt, lv, .int .u8 fk, .int .i64 ft, .int .i64 fn, .int .i64 fa, .int .i64 fc] 40) (fun h => h.has HBX.out HNS.out) (fun h => h.has HBX.out HNS.out) (fun h => h.has HBX.out HNS.out)).cell 6) ((hC.any (Y := fun W => Has W w.heap.size #[.int .u8 7, .int .i64 i, .string nm, .string dt, lv, .int .u8 fk, .int .i64 ft, .int .i64 fn, .int .i64 fa, .int .i64 fc] 40) (fun h => h.has HBX.out HNS.out) (fun h => h.has HBX.out HNS.out) (fun h => h.has HBX.out HNS.out)).cell 7) ((hC.any (Y := fun W => Has W w.heap.size #[.int .u8 7, .int .i64 i, .string nm, .string dt, lv, .int .u8 fk, .int .i64 ft, .int .i64 fn, .int .i64 fa, .int .i64 fc] 40) (fun h => h.has HBX.out HNS.out) (fun h => h.has HBX.out HNS.out) (fun h => h.has HBX.out HNS.out)).cell 8) ((hC.any (Y := fun W => Has W w.heap.size #[.int .u8 7, .int .i64 i, .string nm, .string dt, lv, .int .u8 fk, .int .i64 ft, .int .i64 fn, .int .i64 fa, .int .i64 fc] 40) (fun h => h.has HBX.out HNS.out) (fun h => h.has HBX.out HNS.out) (fun h => h.has HBX.out HNS.out)).cell 9))
    · obtain ⟨S1, k1, k2, k3⟩ := (hC.second (hed 3 (by kernel_rfl)) hl).rf
      refine Tl.sl_call 42 #[.pointer (some ⟨c, 0, none⟩), .agg #[.int .u8 fk, .int .i64 ft, .int .i64 fn, .int .i64 fa, .int .i64 fc]] (Tl.wanted_none rfl) (rn_call2 rfl rfl ((hF 142 (by decide +kernel)).1 (by decide)) ((hF 144 (by decide +kernel)).1 (by decide)) (enw42 _)) ((dstrike_any k1 HSM.out fk ft fn fa fc hf2 hf3).mono ?_)
      rintro e w'' ⟨rfl, ha⟩
      exact ⟨_, rfl, Tl.Two.both (by decide) (hed 3 (by kernel_rfl)) (by rw [hsz]; decide) (k3 _ _ ha), fun _ _ _ h => h, fun d hd => by cases hd; rfl⟩
    · exact Tl.sl_v 146 _ rfl (Tl.wanted_none rfl) (hC.other (by decide) (by decide)) rfl (rn_eql25 rfl ((hF 141 (by decide +kernel)).1 (by decide)) ((hF 145 (by decide +kernel)).1 (by decide)) rfl)
    intro k v W2 hk hC hv
    have hX2 := hC.last (hk 3 (by decide)) (hk 7 (by decide))
    have vv : v 146 = .bool (decide ((strikeW s fk ft fn fa fc).1 = (strikeD r fk ft fn fa fc).1)) := hv 146 (by decide)
    generalize decide ((strikeW s fk ft fn fa fc).1 = (strikeD r fk ft fn fa fc).1) = zz at vv
    have HX2 := hid (AfterP.front HB.out hX2)
    clear hk hC hv hX2
    simp only [Tl.fill, List.drop_succ_cons, List.drop_zero, wpList]
    rw [if_pos (Tl.wanted_none rfl)]
    simp only [Act.put, List.setIfInBounds_toArray, List.set_cons_succ, List.set_cons_zero, vv]
    clear vv
    refine .inl (wp_assign (x := .tmp 146) (d := 6) (v := .bool zz) ?_ ?_ ?_ ?_)
    · rfl
    · rfl
    · rfl
    simp only [Act.put, List.setIfInBounds_toArray, List.set_cons_succ, List.set_cons_zero]
    go_wp2_with fail
    exact HQ.out _ _ HX2.out
  have e7 : ((kd : Int) == 7) = false := beq_eq_false_iff_ne.2 (by omega)
  rw [if_neg h7, if_neg h7] at HQ
  have HB := hid (boxed w (.cells #[.int .u8 (kd : Int), .int .i64 i, .string nm, .string dt, lv, .int .u8 fk, .int .i64 ft, .int .i64 fn, .int .i64 fa, .int .i64 fc] 40))
  have HBX := hid (Has.new w w.heap.size #[.int .u8 (kd : Int), .int .i64 i, .string nm, .string dt, lv, .int .u8 fk, .int .i64 ft, .int .i64 fn, .int .i64 fa, .int .i64 fc] 40 rfl)
  have HD := hid (h.below HB.out)
  have b0 := HBX.out.cell 0
  have b1 := HBX.out.cell 1
  have b2 := HBX.out.cell 2
  have b4 := HBX.out.cell 4
  obtain ⟨wa, hwa⟩ : ∃ wa, wa = w.alloc (.cells #[.int .u8 (kd : Int), .int .i64 i, .string nm, .string dt, lv, .int .u8 fk, .int .i64 ft, .int .i64 fn, .int .i64 fa, .int .i64 fc] 40) := ⟨_, rfl⟩
  rw [← hwa] at HB HBX HD b0 b1 b2 b4
  unfold ptr
  go_enter Tryz.func12, Tryz.ntmps12
  go_wp2_with fail
  rw [← hwa]
  clear hwa
  obtain ⟨S1, k1, _, k3⟩ := (AfterP.refl HD.out).st
  refine (wclear_any k1 HLEN.out).mono ?_
  rintro x w1 ⟨rfl, ha1⟩
  have HA1 := hid (k3 _ _ ha1)
  obtain ⟨T1, t1, t2, t3⟩ := HA1.out.rf
  have HRC := dclear_any t1 HLEN2.out
  have HT3 := hid t3
  unfold ptr at HRC
  clear k1 k3 ha1 t1 t2 t3 b0 b1 b2 b4
  go_wp2_with fail
  refine HRC.mono ?_
  clear HRC
  rintro x w2 ⟨rfl, ha2⟩
  have HA2 := hid (HT3.out _ _ ha2)
  clear ha2 HT3
  go_wp2_with fail
  exact HQ.out _ _ (AfterP.front HB.out HA2.out)
end Go.Proofs.YtgdiaflikfdnaaaGreat
