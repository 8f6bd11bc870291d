/- The document's Crash. -/
import Derived.Test.YtgdiaflikfdnaaaGreatRPut2
namespace Go.Proofs.YtgdiaflikfdnaaaGreat
open Go.RowKit Go.Maps
theorem RdI.only {w w' : World} {v : Value} {ks : List Int} {S : Nat → Prop} (h : RdI w v ks) (ho : Only S w w') (hn : ∀ g o n c, v = .slice (some ⟨g, o, none⟩) n c → 0 < n → ¬ S g) : RdI w' v ks := by
  rcases h with h | ⟨g, o, cap, e0, e, hg, hc⟩
  · exact .inl h
  · refine .inr ⟨g, o, cap, e0, e, Nat.lt_of_lt_of_le hg ho.size, fun j z hz => ?_⟩
    have := hc j z hz
    unfold World.cell? at this ⊢
    rw [ho.block g hg (hn g o _ _ e e0)]; exact this
def rcF7 (kv : Value) (B gk ok k z : Nat) (d : ByteArray) (dl x : Bool) (i : Nat) (v : Value) (_ : World) : Prop := match i with
  | 35 => v = .pointer (some ⟨B, 2, none⟩) | 36 => v = .bool dl | 37 => v = .bool (!dl) | 38 => v = .bool (!dl)
  | 39 => dl = false → v = kv | 40 => dl = false → v = .int .i64 (k : Int) | 41 => dl = false → v = .pointer (some ⟨gk, ok + k, none⟩) | 42 => dl = false → v = .int .i64 (z : Int)
  | 43 => dl = false → v = .pointer (some ⟨B, 0, none⟩) | 44 => dl = false → v = .pointer (some ⟨B, 1, none⟩) | 45 => dl = false → v = .string d | 46 => dl = false → v = .int .i64 (d.size : Int)
  | 47 => dl = false → v = .bool x
  | 48 => v = .bool (!dl && x)
  | _ => True
def rcF8 (kv : Value) (B gk ok k z : Nat) (d : ByteArray) (i : Nat) (v : Value) (_ : World) : Prop := match i with
  | 49 => v = .pointer (some ⟨B, 0, none⟩) | 50 => v = .pointer (some ⟨B, 1, none⟩) | 51 => v = .string d
  | 52 => v = kv | 53 => v = .int .i64 (k : Int) | 54 => v = .pointer (some ⟨gk, ok + k, none⟩) | 55 => v = .int .i64 (z : Int)
  | 56 => v = .string (d.extract 0 z)
  | 57 => v = .pointer (some ⟨B, 0, none⟩) | 58 => v = .pointer (some ⟨B, 1, none⟩)
  | _ => True
def rcF9 (b : Nat) (wv : Value) (q : Rw) (k : Nat) (xs : List Value) (Z : Nat) (i : Nat) (v : Value) (W : World) : Prop := match i with
  | 59 => v = .pointer (some ⟨b, 0, none⟩) | 60 => v = .pointer (some ⟨b, 0, none⟩) | 61 => v = .pointer (some ⟨b, 0, none⟩) | 67 => v = .pointer (some ⟨b, 0, none⟩)
  | 62 => v = .pointer (some ⟨b, 1, none⟩) | 68 => v = .pointer (some ⟨b, 1, none⟩)
  | 63 => v = wv
  | 64 => v = .agg (rcells q).toArray
  | 65 => ∃ g, v = .slice (some ⟨g, 0, none⟩) 1 1 ∧ Z ≤ g ∧ Has W g (rcells q).toArray 117
  | 66 => ∃ g cap, v = .slice (some ⟨g, 0, none⟩) (k + 1) cap ∧ W.ownsRow 0 117 3 (.slice (some ⟨g, 0, none⟩) (k + 1) cap) (k + 1) (xs ++ rcells q) ∧ (wv.ownBlock = some g ∨ Z ≤ g)
  | _ => True
theorem rcF9_turn {b : Nat} {wv : Value} {q : Rw} {k : Nat} {xs : List Value} {Z i : Nat} {v : Value} {W W' : World} (h : rcF9 b wv q k xs Z i v W)
    (h90 : ∀ g, Z ≤ g → Has W g (rcells q).toArray 117 → Has W' g (rcells q).toArray 117)
    (h91 : i = 66 → ∀ g cap, W.ownsRow 0 117 3 (.slice (some ⟨g, 0, none⟩) (k + 1) cap) (k + 1) (xs ++ rcells q) → W'.ownsRow 0 117 3 (.slice (some ⟨g, 0, none⟩) (k + 1) cap) (k + 1) (xs ++ rcells q)) : rcF9 b wv q k xs Z i v W' := by
  unfold rcF9 at h ⊢
  split at h
  all_goals first
    | exact h
    | (obtain ⟨g, e1, e2, e3⟩ := h; exact ⟨g, e1, e2, h90 g e2 e3⟩)
    | (obtain ⟨g, cap, e1, e2, e3⟩ := h; exact ⟨g, cap, e1, h91 rfl g cap e2, e3⟩)
theorem rcF9_below {b : Nat} {wv : Value} {q : Rw} {k : Nat} {xs : List Value} {Z i : Nat} {v : Value} {W W' : World} (h : rcF9 b wv q k xs Z i v W) (hb : Below W.heap.size W W') : rcF9 b wv q k xs Z i v W' :=
  rcF9_turn h (fun _ _ hh => hh.below hb hh.lt) fun _ _ _ hr => row_below hr hb
theorem rcF9_app {b : Nat} {wv : Value} {q : Rw} {k : Nat} {xs : List Value} {Z i : Nat} {v : Value} {W W' : World} (h : rcF9 b wv q k xs Z i v W) (hi : i ≠ 66) (hg : W.grownBy W' wv.ownBlock) (hz : ∀ g, wv.ownBlock = some g → g < Z) : rcF9 b wv q k xs Z i v W' :=
  rcF9_turn h (fun g hZ hh => by
    have hl := hh.lt
    unfold Has at hh ⊢
    rw [hg.block g hl fun e => by have := hz g e.symm; omega]; exact hh) fun e => absurd e hi
set_option maxHeartbeats 4000000 in
set_option maxRecDepth 20000 in
theorem refCrash_any {w : World} {S : Nat → Prop} {b : Nat} {r : Rf} (h : IsRf w S b r) (hN : r.good.length + r.writes.length ≤ 1000000) (kv : Value) (ks : List Int) (hk : RdI w kv ks) (hkl : ks.length ≤ 9223372036854775807) (hkS : ∀ g o n c, kv = .slice (some ⟨g, o, none⟩) n c → 0 < n → ¬ S g) : Calls Tryz.prog 72 #[ptr b, kv] w fun e w' => e = .returned (.tuple #[]) ∧ AfterR w w' S b (crashR r ks) := by
  obtain ⟨gv, wv, h1, hgd, hwr, h4, h5, h6, h7⟩ := h
  obtain ⟨ka, kc, rfl⟩ := hk.form
  obtain ⟨wa, wc, rfl⟩ := row_slice hwr
  have c1 := h1.cell 1
  have c1' : w.cell? ⟨b, 1, none⟩ = some (.slice wa r.writes.length wc) := c1
  have f1 := h1.frozen 1
  obtain ⟨S1, hS1⟩ : ∃ S1 : Nat → Prop, S1 = fun i => S i ∧ (Value.slice wa r.writes.length wc).ownBlock ≠ some i := ⟨_, rfl⟩
  have HI1 : Hid (IsRf (w.setCell ⟨b, 1, none⟩ (.slice none 0 0)) S1 b { r with writes := [] }) := hid (by
    subst hS1
    refine ⟨gv, .slice none 0 0, h1.set 1 _, row_setb hgd h1 (by decide) 1 _, World.ownsRow_nil _ _ _ _, ⟨h4, fun e => row_ne hwr h1 (by decide) b e rfl⟩, fun g hg => ⟨h5 g hg, fun e => rows_ne hgd hwr (by decide) g hg e⟩, fun g hg => by simp [Value.ownBlock] at hg, fun i hi => by have := h7 i hi.1; simpa [World.setCell] using this⟩)
  have HR1 := hid (row_setb hwr h1 (by decide) 1 (.slice none 0 0))
  have HO1 : Hid (Only S w (w.setCell ⟨b, 1, none⟩ (.slice none 0 0))) := hid ((Only.refl S w).set (.inl h4) _)
  have HSS := hid (show ∀ i, S1 i → S i from fun i hi => by subst hS1; exact hi.1)
  have HSN := hid (show ∀ g, (Value.slice wa r.writes.length wc).ownBlock = some g → ¬ S1 g from fun g hg hi => by subst hS1; exact hi.2 hg)
  have HK1 := hid (RdI.only hk HO1.out hkS)
  have HKS := hid hkS
  clear hS1 h1 hgd hwr h4 h5 h6 h7 hk hkS c1
  unfold ptr
  generalize hn : r.writes.length = n at *
  have HN := hid hn
  clear hn
  go_enter Tryz.func72, Tryz.ntmps72
  go_wp2_with fail
  generalize w.setCell ⟨b, 1, none⟩ (.slice none 0 0) = w1 at *
  go_loopg [5] n (fun gk s5 wx => ∃ k : Nat, k + gk = n ∧ s5 = .int .i64 (k : Int) ∧ AfterR w1 wx S1 b { r with writes := keptR r.writes ks k })
  case atStart => exact ⟨0, by omega, rfl, AfterR.refl HI1.out⟩
  case round =>
    obtain ⟨k, hkg, rfl, hA⟩ := hrel
    have HA := hid hA
    clear hA
    cases gk with
    | zero =>
      have q1 : ¬ ((k : Int) < (n : Int)) := by omega
      have HE := hid (show keptR r.writes ks k = keptR r.writes ks r.writes.length from by
        have := HN.out
        rw [show k = r.writes.length from by omega])
      obtain ⟨S2, hi2, hs2, ho2⟩ := HA.out
      have HO := refObjects_any hi2 (by
        have := keptR_len r.writes ks k
        have h2 := HN.out
        show r.good.length + (keptR r.writes ks k).length ≤ _
        omega)
      have HI2 := hid hi2
      have HS2 := hid hs2
      have HO2 := hid ho2
      have HB2 := hid (show b < wr.heap.size from by obtain ⟨_, _, hh, _⟩ := hi2; exact hh.lt)
      unfold ptr at HO
      clear hi2 hs2 ho2 HA HK1 HR1
      go_wp2_with fail
      refine HO.mono ?_
      clear HO
      rintro x w5 ⟨v, rfl, hr, hb⟩
      obtain ⟨va, vc, rfl⟩ := row_slice hr
      have HG := hid (AfterR.good HI2.out hr hb)
      obtain ⟨gv', wv', h1, _⟩ := HI2.out.below hb
      generalize (seenR { r with writes := keptR r.writes ks k }).length = L at *
      have f0 := h1.frozen 0
      have k0 : w5.cell? ⟨b, 0, none⟩ = some gv' := h1.cell 0
      have g1 := h1.set 0 (.slice va L vc)
      have f1 := g1.frozen 1
      have k1 : (w5.setCell ⟨b, 0, none⟩ (.slice va L vc)).cell? ⟨b, 1, none⟩ = some wv' := g1.cell 1
      clear hr hb h1 g1
      go_wp2_with fail
      go_end0
      refine ⟨rfl, ?_⟩
      show AfterR w _ S b { r with good := (keptR r.writes ks r.writes.length).foldl stepR r.good, writes := [] }
      rw [← HE.out]
      exact AfterR.trans (fun i hi => (HS2.out i hi).elim (fun h => .inl (HSS.out i h)) (fun h => .inr (Nat.le_trans HO1.out.size h))) (HO1.out.trans HO2.out fun i hi => .inl (HSS.out i hi)) HG.out
    | succ g1 =>
      have q1 : (k : Int) < (n : Int) := by omega
      by_cases hkk : k < ks.length
      · have q2 : (k : Int) < (ks.length : Int) := by omega
        obtain ⟨S2, hi2, hs2, ho2⟩ := HA.out
        have hrowr : wr.ownsRow 0 117 3 (.slice wa n wc) r.writes.length (r.writes.flatMap rcells) := row_block (by rw [HN.out]; exact HR1.out) fun g hg hl => ho2.block g hl (HSN.out g hg)
        obtain ⟨q, hq⟩ : ∃ q, r.writes[k]? = some q := ⟨_, List.getElem?_eq_getElem (by rw [HN.out]; omega)⟩
        obtain ⟨gw, cw, ew, d0, d1, d2⟩ := rw_cells hrowr hq
        rw [HN.out] at ew
        cases ew
        obtain ⟨zz, hz⟩ : ∃ z, ks[k]? = some z := ⟨_, List.getElem?_eq_getElem hkk⟩
        have hkr := HK1.out.only ho2 (fun g o n c e1 e2 hh => HKS.out g o n c e1 e2 (HSS.out g hh))
        obtain ⟨gk, ok, ekv, hgk, z0⟩ : ∃ gk ok, ka = some ⟨gk, ok, none⟩ ∧ gk < wr.heap.size ∧ wr.cell? ⟨gk, ok + k, none⟩ = some (.int .i64 zz) := by
          rcases hkr with ⟨_, _, _, e⟩ | ⟨g, o, c, e0, e1, e2, e3⟩
          · rw [e] at hkk; simp at hkk
          · cases e1; exact ⟨g, o, rfl, e2, e3 k zz hz⟩
        subst ekv
        have HKP := hid (keptR_succ r.writes ks k)
        have HKE := hid (show keepR r.writes ks k = if 0 ≤ zz then [cutR q zz.toNat] else [] from by unfold keepR; rw [hq, hz])
        have HKL := hid (keptR_len r.writes ks k)
        have HI2 := hid hi2
        have HS2 := hid hs2
        have HO2 := hid ho2
        clear hi2 hs2 ho2 hkr hrowr hq hz
        by_cases hz0 : 0 ≤ zz
        · obtain ⟨z, rfl⟩ := Int.eq_ofNat_of_zero_le hz0
          have q3 : ¬ ((z : Int) < 0) := by omega
          have HNX := hid (show keptR r.writes ks (k + 1) = keptR r.writes ks k ++ [cutR q z] from by rw [HKP.out, HKE.out, if_pos hz0]; rfl)
          have hlen : (keptR r.writes ks k).length ≤ 1000000 := by have := HKL.out; omega
          obtain ⟨rk, hrk⟩ : ∃ rk : Rf, rk = { r with writes := keptR r.writes ks k } := ⟨_, rfl⟩
          have HNX : Hid (({ r with writes := keptR r.writes ks (k + 1) } : Rf) = { rk with writes := rk.writes ++ [cutR q z] }) := hid (by rw [hrk, HNX.out])
          have hrl : rk.writes.length ≤ 1000000 := by rw [hrk]; exact hlen
          rw [← hrk] at HI2
          clear HKP HKE HKL hz0 hrk hlen HA
          go_wp2_with fail
          obtain ⟨WB, hWB⟩ : ∃ WB, WB = wr.alloc (.cells #[.string q.name, .string q.data, .bool q.del] 117) := ⟨_, rfl⟩
          rw [← hWB]
          have HWB : Hid (Below wr.heap.size wr WB) := hid (by rw [hWB]; exact boxed _ _)
          have HBX : Hid (Has WB wr.heap.size (rcells q).toArray 117) := hid (by rw [hWB]; exact Has.new _ _ _ _ rfl)
          have n1 : WB.cell? ⟨wr.heap.size, 1, none⟩ = some (.string q.data) := HBX.out.cell 1
          have n2 : WB.cell? ⟨wr.heap.size, 2, none⟩ = some (.bool q.del) := HBX.out.cell 2
          have z1 : WB.cell? ⟨gk, ok + k, none⟩ = some (.int .i64 (z : Int)) := by rw [HWB.out.cell (p := ⟨gk, ok + k, none⟩) hgk]; exact z0
          have fB := HBX.out.frozen 1
          clear hWB d0 d1 d2 z0 c1' f1
          cases hdl : q.del with
          | true =>
            rw [hdl] at n2
            have HCT := hid (show cutR q z = q from by unfold cutR; rw [hdl, if_neg (by simp)])
            clear hdl
            refine Tl.wp_mix_lit (by kernel_rfl) 14 [35, 36, 37, 38, 39, 40, 41, 42, 43, 44, 45, 46, 47, 48] 77 rfl (by kernel_rfl) (AtW WB.drew) (rcF7 (.slice (some ⟨gk, ok, none⟩) ks.length kc) wr.heap.size gk ok k z q.data true false) rfl
              ⟨fun a' W' hC hF => ?_, fun a' W' hC hF => ?_, fun a' W' hC hF => ?_, fun a' W' hC hF => ?_, fun a' W' hC hF => ?_, fun a' W' hC hF => ?_, fun a' W' hC hF => ?_, fun a' W' hC hF => ?_, fun a' W' hC hF => ?_, fun a' W' hC hF => ?_, fun a' W' hC hF => ?_, fun a' W' hC hF => ?_, fun a' W' hC hF => ?_, fun a' W' hC hF => ?_, trivial⟩ ?_
            · exact Tl.sm_v 35 _ rfl (Tl.wanted_none rfl) hC rfl (rn_f90_1 rfl ((hF 6 (by decide +kernel)).2 (by decide)))
            · exact Tl.sm_v 36 _ rfl (Tl.wanted_none rfl) hC rfl (rn_load4 rfl ((hF 35 (by decide +kernel)).1 (by decide)) (by rw [show W' = _ from hC]; exact n2))
            · exact Tl.sm_v 37 _ rfl (Tl.wanted_none rfl) hC rfl (rn_not4 rfl ((hF 36 (by decide +kernel)).1 (by decide)) rfl)
            · exact Tl.sm_v 38 _ rfl (Tl.wanted_none rfl) hC rfl (rn_move rfl ((hF 37 (by decide +kernel)).1 (by decide)))
            · exact Tl.sm_skip (Tl.wanted_not rfl rfl ((hF 38 (by decide +kernel)).1 (by decide))) (fun d hd => by cases hd; exact fun h => by cases h)
            · exact Tl.sm_skip (Tl.wanted_not rfl rfl ((hF 38 (by decide +kernel)).1 (by decide))) (fun d hd => by cases hd; exact fun h => by cases h)
            · exact Tl.sm_skip (Tl.wanted_not rfl rfl ((hF 38 (by decide +kernel)).1 (by decide))) (fun d hd => by cases hd; exact fun h => by cases h)
            · exact Tl.sm_skip (Tl.wanted_not rfl rfl ((hF 38 (by decide +kernel)).1 (by decide))) (fun d hd => by cases hd; exact fun h => by cases h)
            · exact Tl.sm_skip (Tl.wanted_not rfl rfl ((hF 38 (by decide +kernel)).1 (by decide))) (fun d hd => by cases hd; exact fun h => by cases h)
            · exact Tl.sm_skip (Tl.wanted_not rfl rfl ((hF 38 (by decide +kernel)).1 (by decide))) (fun d hd => by cases hd; exact fun h => by cases h)
            · exact Tl.sm_skip (Tl.wanted_not rfl rfl ((hF 38 (by decide +kernel)).1 (by decide))) (fun d hd => by cases hd; exact fun h => by cases h)
            · exact Tl.sm_skip (Tl.wanted_not rfl rfl ((hF 38 (by decide +kernel)).1 (by decide))) (fun d hd => by cases hd; exact fun h => by cases h)
            · exact Tl.sm_skip (Tl.wanted_not rfl rfl ((hF 38 (by decide +kernel)).1 (by decide))) (fun d hd => by cases hd; exact fun h => by cases h)
            · exact Tl.sm_v 48 _ rfl (Tl.wanted_none rfl) hC rfl (rn_pickF rfl ((hF 38 (by decide +kernel)).1 (by decide)) rfl)
            intro v wB hw hv
            obtain rfl : wB = _ := hw
            have v48 : v 48 = .bool (!true && false) := hv 48 (by decide)
            clear hv
            simp only [Tl.fill, List.drop_succ_cons, List.drop_zero, wpList]
            simp only [Act.put, List.setIfInBounds_toArray, List.set_cons_succ, List.set_cons_zero, v48, Bool.not_true, Bool.false_and]
            clear v48
            go_wp2_with fail
            clear n1 n2 z1 fB
            obtain ⟨WC, hWC⟩ : ∃ WC, WC = WB.drew := ⟨_, rfl⟩
            rw [← hWC]
            have HWC : Hid (Below wr.heap.size wr WC) := hid (by rw [hWC]; exact HWB.out.drew)
            have HBX : Hid (Has WC wr.heap.size (rcells (cutR q z)).toArray 117) := hid (by rw [hWC]; exact (by rw [HCT.out]; exact HBX.out))
            clear hWC
            obtain ⟨gv2, wv2, hst, hgd2, hwr2, h42, h52, h62, h72⟩ := HI2.out.below HWC.out
            have hbx := HBX.out
            have hbn : ∀ g, wv2.ownBlock = some g → g ≠ wr.heap.size := fun g hg e => by
              have := HI2.out
              obtain ⟨_, wv3, hst3, _, hwr3, _⟩ := this
              have e3 : wv3 = wv2 := by
                have u1 := (hst3.below HWC.out hst3.lt).cell 1
                rw [hst.cell 1] at u1
                exact (Option.some.inj u1).symm
              rw [e3] at hwr3
              have := (hwr3.lt g hg).2
              omega
            refine Tl.wp_mix_lit (by kernel_rfl) 10 [59, 60, 61, 62, 63, 64, 65, 66, 67, 68] 77 rfl (by kernel_rfl) (AppR WC.drew wv2 rk.writes.length (rk.writes.flatMap rcells)) (rcF9 b wv2 (cutR q z) rk.writes.length (rk.writes.flatMap rcells) WC.heap.size) ⟨Only.refl _ _, hwr2⟩
              ⟨fun a' W' hC hF => ?_, fun a' W' hC hF => ?_, fun a' W' hC hF => ?_, fun a' W' hC hF => ?_, fun a' W' hC hF => ?_, fun a' W' hC hF => ?_, fun a' W' hC hF => ?_, fun a' W' hC hF => ?_, fun a' W' hC hF => ?_, fun a' W' hC hF => ?_, trivial⟩ ?_
            · exact Tl.sm_v 59 _ rfl (Tl.wanted_none rfl) hC rfl (rn_move rfl ((hF 0 (by decide +kernel)).2 (by decide)))
            · exact Tl.sm_v 60 _ rfl (Tl.wanted_none rfl) hC rfl (rn_move rfl ((hF 0 (by decide +kernel)).2 (by decide)))
            · exact Tl.sm_v 61 _ rfl (Tl.wanted_none rfl) hC rfl (rn_nilCheck rfl ((hF 60 (by decide +kernel)).1 (by decide)))
            · exact Tl.sm_v 62 _ rfl (Tl.wanted_none rfl) hC rfl (rn_f79_1 rfl ((hF 61 (by decide +kernel)).1 (by decide)))
            · exact Tl.sm_v 63 _ rfl (Tl.wanted_none rfl) hC rfl (rn_load77 rfl ((hF 62 (by decide +kernel)).1 (by decide)) ((hC.has hst (row_ne hwr2 hst (by decide))).cell 1))
            · exact Tl.sm_v 64 _ rfl (Tl.wanted_none rfl) hC rfl (rn_load90 rfl ((hF 6 (by decide +kernel)).2 (by decide)) ((hC.has hbx hbn).cell 0) ((hC.has hbx hbn).cell 1) ((hC.has hbx hbn).cell 2))
            · refine Tl.sm_w _ (Tl.wanted_none rfl) (rn_bs77 rfl ((hF 64 (by decide +kernel)).1 (by decide))) (hC.alloc _) (fun d v _ hf => rcF9_below hf (boxed _ _)) fun d hd => ?_
              cases hd
              exact ⟨W'.heap.size, rfl, hC.1.size, Has.new _ _ _ _ rfl⟩
            · obtain ⟨ga, e65, hga, hHas⟩ : ∃ g, a'.tmps.getD 65 undef = .slice (some ⟨g, 0, none⟩) 1 1 ∧ WC.heap.size ≤ g ∧ Has W' g (rcells (cutR q z)).toArray 117 := (hF 65 (by decide +kernel)).1 (by decide)
              obtain ⟨gb, cap, w'', r1', r2, r3, r4, r5⟩ := run_app2 el90 W' 102 0 wv2 _ _ hC.2 ⟨ga, 0, none⟩ 1 1 (rcells (cutR q z)) (by decide) rfl (has_add hHas) (rcells_one _) (by omega) (Nat.zero_le _)
              refine Tl.sm_w _ (Tl.wanted_none rfl) (rn_app77 rfl ((hF 63 (by decide +kernel)).1 (by decide)) e65 r1') ⟨hC.1.trans (Only.of_grown (S := fun i => wv2.ownBlock = some i) r3 (fun k h => h)) (fun _ h => .inl h), r4⟩ (fun i v hi hf => rcF9_app hf (fun e => hi (by rw [e])) r3 (fun g hg => (hwr2.lt g hg).2)) fun d hd => ?_
              cases hd
              exact ⟨gb, cap, rfl, r2, r5.imp id (Nat.le_trans hC.1.size)⟩
            · exact Tl.sm_v 67 _ rfl (Tl.wanted_none rfl) hC rfl (rn_nilCheck rfl ((hF 59 (by decide +kernel)).1 (by decide)))
            · exact Tl.sm_v 68 _ rfl (Tl.wanted_none rfl) hC rfl (rn_f79_1 rfl ((hF 67 (by decide +kernel)).1 (by decide)))
            intro v w4 hw4 hv
            obtain ⟨g, cap, v66, hr66, hg66⟩ : ∃ g cap, v 66 = .slice (some ⟨g, 0, none⟩) (rk.writes.length + 1) cap ∧ w4.ownsRow 0 117 3 (.slice (some ⟨g, 0, none⟩) (rk.writes.length + 1) cap) (rk.writes.length + 1) (rk.writes.flatMap rcells ++ rcells (cutR q z)) ∧ (wv2.ownBlock = some g ∨ WC.heap.size ≤ g) := hv 66 (by decide)
            have v68 : v 68 = .pointer (some ⟨b, 1, none⟩) := hv 68 (by decide)
            have hA4 := hid (AfterR.front HWC.out.drew (rf_writes (w := WC.drew) (S := S2) (q := cutR q z) hst hgd2 hwr2 h42 h52 h62 h72 hw4.1 hr66 (fun g' hg' => by simp [Value.ownBlock] at hg'; subst hg'; exact hg66)))
            have hst4 := hw4.has hst (row_ne hwr2 hst (by decide))
            have y1 := hst4.cell 1
            have y2 := hst4.frozen 1
            clear hv hw4 hst hgd2 hwr2 h42 h52 h62 h72 hbx hst4 hr66 hg66 hbn
            simp only [Tl.fill, List.drop_succ_cons, List.drop_zero]
            simp only [Act.put, List.setIfInBounds_toArray, List.set_cons_succ, List.set_cons_zero, v66, v68]
            clear v66 v68
            go_wp2_with fail
            go_roundg g1
            case measure => omega
            case rel => exact ⟨k + 1, by omega, by first | rfl | simp, by rw [HNX.out]; exact AfterR.trans HS2.out HO2.out hA4.out⟩
          | false =>
            rw [hdl] at n2
            by_cases hzs : z < q.data.size
            · have q5 : decide ((z : Int) < (q.data.size : Int)) = true := decide_eq_true (by omega)
              have HCT := hid (show cutR q z = { q with data := q.data.extract 0 z } from by unfold cutR; rw [hdl, if_pos ⟨rfl, hzs⟩])
              have hzl : z ≤ q.data.size := by omega
              clear hdl hzs
              refine Tl.wp_mix_lit (by kernel_rfl) 14 [35, 36, 37, 38, 39, 40, 41, 42, 43, 44, 45, 46, 47, 48] 77 rfl (by kernel_rfl) (AtW WB.drew) (rcF7 (.slice (some ⟨gk, ok, none⟩) ks.length kc) wr.heap.size gk ok k z q.data false true) rfl
                ⟨fun a' W' hC hF => ?_, fun a' W' hC hF => ?_, fun a' W' hC hF => ?_, fun a' W' hC hF => ?_, fun a' W' hC hF => ?_, fun a' W' hC hF => ?_, fun a' W' hC hF => ?_, fun a' W' hC hF => ?_, fun a' W' hC hF => ?_, fun a' W' hC hF => ?_, fun a' W' hC hF => ?_, fun a' W' hC hF => ?_, fun a' W' hC hF => ?_, fun a' W' hC hF => ?_, trivial⟩ ?_
              · exact Tl.sm_v 35 _ rfl (Tl.wanted_none rfl) hC rfl (rn_f90_1 rfl ((hF 6 (by decide +kernel)).2 (by decide)))
              · exact Tl.sm_v 36 _ rfl (Tl.wanted_none rfl) hC rfl (rn_load4 rfl ((hF 35 (by decide +kernel)).1 (by decide)) (by rw [show W' = _ from hC]; exact n2))
              · exact Tl.sm_v 37 _ rfl (Tl.wanted_none rfl) hC rfl (rn_not4 rfl ((hF 36 (by decide +kernel)).1 (by decide)) rfl)
              · exact Tl.sm_v 38 _ rfl (Tl.wanted_none rfl) hC rfl (rn_move rfl ((hF 37 (by decide +kernel)).1 (by decide)))
              · exact Tl.sm_v 39 _ rfl (Tl.wanted_is rfl rfl ((hF 38 (by decide +kernel)).1 (by decide))) hC (fun _ => rfl) (rn_move rfl ((hF 1 (by decide +kernel)).2 (by decide)))
              · exact Tl.sm_v 40 _ rfl (Tl.wanted_is rfl rfl ((hF 38 (by decide +kernel)).1 (by decide))) hC (fun _ => rfl) (rn_move rfl ((hF 5 (by decide +kernel)).2 (by decide)))
              · exact Tl.sm_v 41 _ rfl (Tl.wanted_is rfl rfl ((hF 38 (by decide +kernel)).1 (by decide))) hC (fun _ => rfl) (rn_ix39 rfl (((hF 39 (by decide +kernel)).1 (by decide)) rfl) (((hF 40 (by decide +kernel)).1 (by decide)) rfl) hkk)
              · exact Tl.sm_v 42 _ rfl (Tl.wanted_is rfl rfl ((hF 38 (by decide +kernel)).1 (by decide))) hC (fun _ => rfl) (rn_load3 rfl (((hF 41 (by decide +kernel)).1 (by decide)) rfl) (by rw [show W' = _ from hC]; exact z1))
              · exact Tl.sm_v 43 _ rfl (Tl.wanted_is rfl rfl ((hF 38 (by decide +kernel)).1 (by decide))) hC (fun _ => rfl) (rn_f90_0 rfl ((hF 6 (by decide +kernel)).2 (by decide)))
              · exact Tl.sm_v 44 _ rfl (Tl.wanted_is rfl rfl ((hF 38 (by decide +kernel)).1 (by decide))) hC (fun _ => rfl) (rn_f28_1 rfl (((hF 43 (by decide +kernel)).1 (by decide)) rfl))
              · exact Tl.sm_v 45 _ rfl (Tl.wanted_is rfl rfl ((hF 38 (by decide +kernel)).1 (by decide))) hC (fun _ => rfl) (rn_load9 rfl (((hF 44 (by decide +kernel)).1 (by decide)) rfl) (by rw [show W' = _ from hC]; exact n1))
              · exact Tl.sm_v 46 _ rfl (Tl.wanted_is rfl rfl ((hF 38 (by decide +kernel)).1 (by decide))) hC (fun _ => rfl) (rn_len9 rfl (((hF 45 (by decide +kernel)).1 (by decide)) rfl))
              · exact Tl.sm_v 47 _ rfl (Tl.wanted_is rfl rfl ((hF 38 (by decide +kernel)).1 (by decide))) hC (fun _ => rfl) (rn_lss3 rfl (((hF 42 (by decide +kernel)).1 (by decide)) rfl) (((hF 46 (by decide +kernel)).1 (by decide)) rfl) q5)
              · exact Tl.sm_v 48 _ rfl (Tl.wanted_none rfl) hC rfl (rn_pickT rfl ((hF 38 (by decide +kernel)).1 (by decide)) (((hF 47 (by decide +kernel)).1 (by decide)) rfl))
              intro v wB hw hv
              obtain rfl : wB = _ := hw
              have v48 : v 48 = .bool (!false && true) := hv 48 (by decide)
              clear hv
              simp only [Tl.fill, List.drop_succ_cons, List.drop_zero, wpList]
              simp only [Act.put, List.setIfInBounds_toArray, List.set_cons_succ, List.set_cons_zero, v48, Bool.not_false, Bool.true_and]
              clear v48
              go_wp2_with fail
              refine Tl.wp_mix_lit (by kernel_rfl) 10 [49, 50, 51, 52, 53, 54, 55, 56, 57, 58] 77 rfl (by kernel_rfl) (AtW WB.drew.drew) (rcF8 (.slice (some ⟨gk, ok, none⟩) ks.length kc) wr.heap.size gk ok k z q.data) rfl
                ⟨fun a' W' hC hF => ?_, fun a' W' hC hF => ?_, fun a' W' hC hF => ?_, fun a' W' hC hF => ?_, fun a' W' hC hF => ?_, fun a' W' hC hF => ?_, fun a' W' hC hF => ?_, fun a' W' hC hF => ?_, fun a' W' hC hF => ?_, fun a' W' hC hF => ?_, trivial⟩ ?_
              · exact Tl.sm_v 49 _ rfl (Tl.wanted_none rfl) hC rfl (rn_f90_0 rfl ((hF 6 (by decide +kernel)).2 (by decide)))
              · exact Tl.sm_v 50 _ rfl (Tl.wanted_none rfl) hC rfl (rn_f28_1 rfl ((hF 49 (by decide +kernel)).1 (by decide)))
              · exact Tl.sm_v 51 _ rfl (Tl.wanted_none rfl) hC rfl (rn_load9 rfl ((hF 50 (by decide +kernel)).1 (by decide)) (by rw [show W' = _ from hC]; exact n1))
              · exact Tl.sm_v 52 _ rfl (Tl.wanted_none rfl) hC rfl (rn_move rfl ((hF 1 (by decide +kernel)).2 (by decide)))
              · exact Tl.sm_v 53 _ rfl (Tl.wanted_none rfl) hC rfl (rn_move rfl ((hF 5 (by decide +kernel)).2 (by decide)))
              · exact Tl.sm_v 54 _ rfl (Tl.wanted_none rfl) hC rfl (rn_ix39 rfl ((hF 52 (by decide +kernel)).1 (by decide)) ((hF 53 (by decide +kernel)).1 (by decide)) hkk)
              · exact Tl.sm_v 55 _ rfl (Tl.wanted_none rfl) hC rfl (rn_load3 rfl ((hF 54 (by decide +kernel)).1 (by decide)) (by rw [show W' = _ from hC]; exact z1))
              · exact Tl.sm_v 56 _ rfl (Tl.wanted_none rfl) hC rfl (rn_sl9 rfl ((hF 51 (by decide +kernel)).1 (by decide)) ((hF 55 (by decide +kernel)).1 (by decide)) hzl)
              · exact Tl.sm_v 57 _ rfl (Tl.wanted_none rfl) hC rfl (rn_f90_0 rfl ((hF 6 (by decide +kernel)).2 (by decide)))
              · exact Tl.sm_v 58 _ rfl (Tl.wanted_none rfl) hC rfl (rn_f28_1 rfl ((hF 57 (by decide +kernel)).1 (by decide)))
              intro v wB hw hv
              obtain rfl : wB = _ := hw
              have v56 : v 56 = .string (q.data.extract 0 z) := hv 56 (by decide)
              have v58 : v 58 = .pointer (some ⟨wr.heap.size, 1, none⟩) := hv 58 (by decide)
              clear hv
              simp only [Tl.fill, List.drop_succ_cons, List.drop_zero]
              simp only [Act.put, List.setIfInBounds_toArray, List.set_cons_succ, List.set_cons_zero, v56, v58]
              clear v56 v58
              go_wp2_with fail
              clear n1 n2 z1 fB
              obtain ⟨WC, hWC⟩ : ∃ WC, WC = (WB.setCell ⟨wr.heap.size, 1, none⟩ (.string (q.data.extract 0 z))).drew.drew := ⟨_, rfl⟩
              rw [← hWC]
              have HWC : Hid (Below wr.heap.size wr WC) := hid (by rw [hWC]; exact (HWB.out.setCell (Nat.le_refl _) _).drew.drew)
              have HBX : Hid (Has WC wr.heap.size (rcells (cutR q z)).toArray 117) := hid (by rw [hWC]; exact (by rw [HCT.out]; exact HBX.out.set 1 (.string (q.data.extract 0 z))))
              clear hWC
              obtain ⟨gv2, wv2, hst, hgd2, hwr2, h42, h52, h62, h72⟩ := HI2.out.below HWC.out
              have hbx := HBX.out
              have hbn : ∀ g, wv2.ownBlock = some g → g ≠ wr.heap.size := fun g hg e => by
                have := HI2.out
                obtain ⟨_, wv3, hst3, _, hwr3, _⟩ := this
                have e3 : wv3 = wv2 := by
                  have u1 := (hst3.below HWC.out hst3.lt).cell 1
                  rw [hst.cell 1] at u1
                  exact (Option.some.inj u1).symm
                rw [e3] at hwr3
                have := (hwr3.lt g hg).2
                omega
              refine Tl.wp_mix_lit (by kernel_rfl) 10 [59, 60, 61, 62, 63, 64, 65, 66, 67, 68] 77 rfl (by kernel_rfl) (AppR WC.drew wv2 rk.writes.length (rk.writes.flatMap rcells)) (rcF9 b wv2 (cutR q z) rk.writes.length (rk.writes.flatMap rcells) WC.heap.size) ⟨Only.refl _ _, hwr2⟩
                ⟨fun a' W' hC hF => ?_, fun a' W' hC hF => ?_, fun a' W' hC hF => ?_, fun a' W' hC hF => ?_, fun a' W' hC hF => ?_, fun a' W' hC hF => ?_, fun a' W' hC hF => ?_, fun a' W' hC hF => ?_, fun a' W' hC hF => ?_, fun a' W' hC hF => ?_, trivial⟩ ?_
              · exact Tl.sm_v 59 _ rfl (Tl.wanted_none rfl) hC rfl (rn_move rfl ((hF 0 (by decide +kernel)).2 (by decide)))
              · exact Tl.sm_v 60 _ rfl (Tl.wanted_none rfl) hC rfl (rn_move rfl ((hF 0 (by decide +kernel)).2 (by decide)))
              · exact Tl.sm_v 61 _ rfl (Tl.wanted_none rfl) hC rfl (rn_nilCheck rfl ((hF 60 (by decide +kernel)).1 (by decide)))
              · exact Tl.sm_v 62 _ rfl (Tl.wanted_none rfl) hC rfl (rn_f79_1 rfl ((hF 61 (by decide +kernel)).1 (by decide)))
              · exact Tl.sm_v 63 _ rfl (Tl.wanted_none rfl) hC rfl (rn_load77 rfl ((hF 62 (by decide +kernel)).1 (by decide)) ((hC.has hst (row_ne hwr2 hst (by decide))).cell 1))
              · exact Tl.sm_v 64 _ rfl (Tl.wanted_none rfl) hC rfl (rn_load90 rfl ((hF 6 (by decide +kernel)).2 (by decide)) ((hC.has hbx hbn).cell 0) ((hC.has hbx hbn).cell 1) ((hC.has hbx hbn).cell 2))
              · refine Tl.sm_w _ (Tl.wanted_none rfl) (rn_bs77 rfl ((hF 64 (by decide +kernel)).1 (by decide))) (hC.alloc _) (fun d v _ hf => rcF9_below hf (boxed _ _)) fun d hd => ?_
                cases hd
                exact ⟨W'.heap.size, rfl, hC.1.size, Has.new _ _ _ _ rfl⟩
              · obtain ⟨ga, e65, hga, hHas⟩ : ∃ g, a'.tmps.getD 65 undef = .slice (some ⟨g, 0, none⟩) 1 1 ∧ WC.heap.size ≤ g ∧ Has W' g (rcells (cutR q z)).toArray 117 := (hF 65 (by decide +kernel)).1 (by decide)
                obtain ⟨gb, cap, w'', r1', r2, r3, r4, r5⟩ := run_app2 el90 W' 102 0 wv2 _ _ hC.2 ⟨ga, 0, none⟩ 1 1 (rcells (cutR q z)) (by decide) rfl (has_add hHas) (rcells_one _) (by omega) (Nat.zero_le _)
                refine Tl.sm_w _ (Tl.wanted_none rfl) (rn_app77 rfl ((hF 63 (by decide +kernel)).1 (by decide)) e65 r1') ⟨hC.1.trans (Only.of_grown (S := fun i => wv2.ownBlock = some i) r3 (fun k h => h)) (fun _ h => .inl h), r4⟩ (fun i v hi hf => rcF9_app hf (fun e => hi (by rw [e])) r3 (fun g hg => (hwr2.lt g hg).2)) fun d hd => ?_
                cases hd
                exact ⟨gb, cap, rfl, r2, r5.imp id (Nat.le_trans hC.1.size)⟩
              · exact Tl.sm_v 67 _ rfl (Tl.wanted_none rfl) hC rfl (rn_nilCheck rfl ((hF 59 (by decide +kernel)).1 (by decide)))
              · exact Tl.sm_v 68 _ rfl (Tl.wanted_none rfl) hC rfl (rn_f79_1 rfl ((hF 67 (by decide +kernel)).1 (by decide)))
              intro v w4 hw4 hv
              obtain ⟨g, cap, v66, hr66, hg66⟩ : ∃ g cap, v 66 = .slice (some ⟨g, 0, none⟩) (rk.writes.length + 1) cap ∧ w4.ownsRow 0 117 3 (.slice (some ⟨g, 0, none⟩) (rk.writes.length + 1) cap) (rk.writes.length + 1) (rk.writes.flatMap rcells ++ rcells (cutR q z)) ∧ (wv2.ownBlock = some g ∨ WC.heap.size ≤ g) := hv 66 (by decide)
              have v68 : v 68 = .pointer (some ⟨b, 1, none⟩) := hv 68 (by decide)
              have hA4 := hid (AfterR.front HWC.out.drew (rf_writes (w := WC.drew) (S := S2) (q := cutR q z) hst hgd2 hwr2 h42 h52 h62 h72 hw4.1 hr66 (fun g' hg' => by simp [Value.ownBlock] at hg'; subst hg'; exact hg66)))
              have hst4 := hw4.has hst (row_ne hwr2 hst (by decide))
              have y1 := hst4.cell 1
              have y2 := hst4.frozen 1
              clear hv hw4 hst hgd2 hwr2 h42 h52 h62 h72 hbx hst4 hr66 hg66 hbn
              simp only [Tl.fill, List.drop_succ_cons, List.drop_zero]
              simp only [Act.put, List.setIfInBounds_toArray, List.set_cons_succ, List.set_cons_zero, v66, v68]
              clear v66 v68
              go_wp2_with fail
              go_roundg g1
              case measure => omega
              case rel => exact ⟨k + 1, by omega, by first | rfl | simp, by rw [HNX.out]; exact AfterR.trans HS2.out HO2.out hA4.out⟩
            · have q5 : decide ((z : Int) < (q.data.size : Int)) = false := decide_eq_false (by omega)
              have HCT := hid (show cutR q z = q from by unfold cutR; rw [hdl, if_neg (by simp; omega)])
              clear hdl hzs
              refine Tl.wp_mix_lit (by kernel_rfl) 14 [35, 36, 37, 38, 39, 40, 41, 42, 43, 44, 45, 46, 47, 48] 77 rfl (by kernel_rfl) (AtW WB.drew) (rcF7 (.slice (some ⟨gk, ok, none⟩) ks.length kc) wr.heap.size gk ok k z q.data false false) rfl
                ⟨fun a' W' hC hF => ?_, fun a' W' hC hF => ?_, fun a' W' hC hF => ?_, fun a' W' hC hF => ?_, fun a' W' hC hF => ?_, fun a' W' hC hF => ?_, fun a' W' hC hF => ?_, fun a' W' hC hF => ?_, fun a' W' hC hF => ?_, fun a' W' hC hF => ?_, fun a' W' hC hF => ?_, fun a' W' hC hF => ?_, fun a' W' hC hF => ?_, fun a' W' hC hF => ?_, trivial⟩ ?_
              · exact Tl.sm_v 35 _ rfl (Tl.wanted_none rfl) hC rfl (rn_f90_1 rfl ((hF 6 (by decide +kernel)).2 (by decide)))
              · exact Tl.sm_v 36 _ rfl (Tl.wanted_none rfl) hC rfl (rn_load4 rfl ((hF 35 (by decide +kernel)).1 (by decide)) (by rw [show W' = _ from hC]; exact n2))
              · exact Tl.sm_v 37 _ rfl (Tl.wanted_none rfl) hC rfl (rn_not4 rfl ((hF 36 (by decide +kernel)).1 (by decide)) rfl)
              · exact Tl.sm_v 38 _ rfl (Tl.wanted_none rfl) hC rfl (rn_move rfl ((hF 37 (by decide +kernel)).1 (by decide)))
              · exact Tl.sm_v 39 _ rfl (Tl.wanted_is rfl rfl ((hF 38 (by decide +kernel)).1 (by decide))) hC (fun _ => rfl) (rn_move rfl ((hF 1 (by decide +kernel)).2 (by decide)))
              · exact Tl.sm_v 40 _ rfl (Tl.wanted_is rfl rfl ((hF 38 (by decide +kernel)).1 (by decide))) hC (fun _ => rfl) (rn_move rfl ((hF 5 (by decide +kernel)).2 (by decide)))
              · exact Tl.sm_v 41 _ rfl (Tl.wanted_is rfl rfl ((hF 38 (by decide +kernel)).1 (by decide))) hC (fun _ => rfl) (rn_ix39 rfl (((hF 39 (by decide +kernel)).1 (by decide)) rfl) (((hF 40 (by decide +kernel)).1 (by decide)) rfl) hkk)
              · exact Tl.sm_v 42 _ rfl (Tl.wanted_is rfl rfl ((hF 38 (by decide +kernel)).1 (by decide))) hC (fun _ => rfl) (rn_load3 rfl (((hF 41 (by decide +kernel)).1 (by decide)) rfl) (by rw [show W' = _ from hC]; exact z1))
              · exact Tl.sm_v 43 _ rfl (Tl.wanted_is rfl rfl ((hF 38 (by decide +kernel)).1 (by decide))) hC (fun _ => rfl) (rn_f90_0 rfl ((hF 6 (by decide +kernel)).2 (by decide)))
              · exact Tl.sm_v 44 _ rfl (Tl.wanted_is rfl rfl ((hF 38 (by decide +kernel)).1 (by decide))) hC (fun _ => rfl) (rn_f28_1 rfl (((hF 43 (by decide +kernel)).1 (by decide)) rfl))
              · exact Tl.sm_v 45 _ rfl (Tl.wanted_is rfl rfl ((hF 38 (by decide +kernel)).1 (by decide))) hC (fun _ => rfl) (rn_load9 rfl (((hF 44 (by decide +kernel)).1 (by decide)) rfl) (by rw [show W' = _ from hC]; exact n1))
              · exact Tl.sm_v 46 _ rfl (Tl.wanted_is rfl rfl ((hF 38 (by decide +kernel)).1 (by decide))) hC (fun _ => rfl) (rn_len9 rfl (((hF 45 (by decide +kernel)).1 (by decide)) rfl))
              · exact Tl.sm_v 47 _ rfl (Tl.wanted_is rfl rfl ((hF 38 (by decide +kernel)).1 (by decide))) hC (fun _ => rfl) (rn_lss3 rfl (((hF 42 (by decide +kernel)).1 (by decide)) rfl) (((hF 46 (by decide +kernel)).1 (by decide)) rfl) q5)
              · exact Tl.sm_v 48 _ rfl (Tl.wanted_none rfl) hC rfl (rn_pickT rfl ((hF 38 (by decide +kernel)).1 (by decide)) (((hF 47 (by decide +kernel)).1 (by decide)) rfl))
              intro v wB hw hv
              obtain rfl : wB = _ := hw
              have v48 : v 48 = .bool (!false && false) := hv 48 (by decide)
              clear hv
              simp only [Tl.fill, List.drop_succ_cons, List.drop_zero, wpList]
              simp only [Act.put, List.setIfInBounds_toArray, List.set_cons_succ, List.set_cons_zero, v48, Bool.not_false, Bool.true_and]
              clear v48
              go_wp2_with fail
              clear n1 n2 z1 fB
              obtain ⟨WC, hWC⟩ : ∃ WC, WC = WB.drew := ⟨_, rfl⟩
              rw [← hWC]
              have HWC : Hid (Below wr.heap.size wr WC) := hid (by rw [hWC]; exact HWB.out.drew)
              have HBX : Hid (Has WC wr.heap.size (rcells (cutR q z)).toArray 117) := hid (by rw [hWC]; exact (by rw [HCT.out]; exact HBX.out))
              clear hWC
              obtain ⟨gv2, wv2, hst, hgd2, hwr2, h42, h52, h62, h72⟩ := HI2.out.below HWC.out
              have hbx := HBX.out
              have hbn : ∀ g, wv2.ownBlock = some g → g ≠ wr.heap.size := fun g hg e => by
                have := HI2.out
                obtain ⟨_, wv3, hst3, _, hwr3, _⟩ := this
                have e3 : wv3 = wv2 := by
                  have u1 := (hst3.below HWC.out hst3.lt).cell 1
                  rw [hst.cell 1] at u1
                  exact (Option.some.inj u1).symm
                rw [e3] at hwr3
                have := (hwr3.lt g hg).2
                omega
              refine Tl.wp_mix_lit (by kernel_rfl) 10 [59, 60, 61, 62, 63, 64, 65, 66, 67, 68] 77 rfl (by kernel_rfl) (AppR WC.drew wv2 rk.writes.length (rk.writes.flatMap rcells)) (rcF9 b wv2 (cutR q z) rk.writes.length (rk.writes.flatMap rcells) WC.heap.size) ⟨Only.refl _ _, hwr2⟩
                ⟨fun a' W' hC hF => ?_, fun a' W' hC hF => ?_, fun a' W' hC hF => ?_, fun a' W' hC hF => ?_, fun a' W' hC hF => ?_, fun a' W' hC hF => ?_, fun a' W' hC hF => ?_, fun a' W' hC hF => ?_, fun a' W' hC hF => ?_, fun a' W' hC hF => ?_, trivial⟩ ?_
              · exact Tl.sm_v 59 _ rfl (Tl.wanted_none rfl) hC rfl (rn_move rfl ((hF 0 (by decide +kernel)).2 (by decide)))
              · exact Tl.sm_v 60 _ rfl (Tl.wanted_none rfl) hC rfl (rn_move rfl ((hF 0 (by decide +kernel)).2 (by decide)))
              · exact Tl.sm_v 61 _ rfl (Tl.wanted_none rfl) hC rfl (rn_nilCheck rfl ((hF 60 (by decide +kernel)).1 (by decide)))
              · exact Tl.sm_v 62 _ rfl (Tl.wanted_none rfl) hC rfl (rn_f79_1 rfl ((hF 61 (by decide +kernel)).1 (by decide)))
              · exact Tl.sm_v 63 _ rfl (Tl.wanted_none rfl) hC rfl (rn_load77 rfl ((hF 62 (by decide +kernel)).1 (by decide)) ((hC.has hst (row_ne hwr2 hst (by decide))).cell 1))
              · exact Tl.sm_v 64 _ rfl (Tl.wanted_none rfl) hC rfl (rn_load90 rfl ((hF 6 (by decide +kernel)).2 (by decide)) ((hC.has hbx hbn).cell 0) ((hC.has hbx hbn).cell 1) ((hC.has hbx hbn).cell 2))
              · refine Tl.sm_w _ (Tl.wanted_none rfl) (rn_bs77 rfl ((hF 64 (by decide +kernel)).1 (by decide))) (hC.alloc _) (fun d v _ hf => rcF9_below hf (boxed _ _)) fun d hd => ?_
                cases hd
                exact ⟨W'.heap.size, rfl, hC.1.size, Has.new _ _ _ _ rfl⟩
              · obtain ⟨ga, e65, hga, hHas⟩ : ∃ g, a'.tmps.getD 65 undef = .slice (some ⟨g, 0, none⟩) 1 1 ∧ WC.heap.size ≤ g ∧ Has W' g (rcells (cutR q z)).toArray 117 := (hF 65 (by decide +kernel)).1 (by decide)
                obtain ⟨gb, cap, w'', r1', r2, r3, r4, r5⟩ := run_app2 el90 W' 102 0 wv2 _ _ hC.2 ⟨ga, 0, none⟩ 1 1 (rcells (cutR q z)) (by decide) rfl (has_add hHas) (rcells_one _) (by omega) (Nat.zero_le _)
                refine Tl.sm_w _ (Tl.wanted_none rfl) (rn_app77 rfl ((hF 63 (by decide +kernel)).1 (by decide)) e65 r1') ⟨hC.1.trans (Only.of_grown (S := fun i => wv2.ownBlock = some i) r3 (fun k h => h)) (fun _ h => .inl h), r4⟩ (fun i v hi hf => rcF9_app hf (fun e => hi (by rw [e])) r3 (fun g hg => (hwr2.lt g hg).2)) fun d hd => ?_
                cases hd
                exact ⟨gb, cap, rfl, r2, r5.imp id (Nat.le_trans hC.1.size)⟩
              · exact Tl.sm_v 67 _ rfl (Tl.wanted_none rfl) hC rfl (rn_nilCheck rfl ((hF 59 (by decide +kernel)).1 (by decide)))
              · exact Tl.sm_v 68 _ rfl (Tl.wanted_none rfl) hC rfl (rn_f79_1 rfl ((hF 67 (by decide +kernel)).1 (by decide)))
              intro v w4 hw4 hv
              obtain ⟨g, cap, v66, hr66, hg66⟩ : ∃ g cap, v 66 = .slice (some ⟨g, 0, none⟩) (rk.writes.length + 1) cap ∧ w4.ownsRow 0 117 3 (.slice (some ⟨g, 0, none⟩) (rk.writes.length + 1) cap) (rk.writes.length + 1) (rk.writes.flatMap rcells ++ rcells (cutR q z)) ∧ (wv2.ownBlock = some g ∨ WC.heap.size ≤ g) := hv 66 (by decide)
              have v68 : v 68 = .pointer (some ⟨b, 1, none⟩) := hv 68 (by decide)
              have hA4 := hid (AfterR.front HWC.out.drew (rf_writes (w := WC.drew) (S := S2) (q := cutR q z) hst hgd2 hwr2 h42 h52 h62 h72 hw4.1 hr66 (fun g' hg' => by simp [Value.ownBlock] at hg'; subst hg'; exact hg66)))
              have hst4 := hw4.has hst (row_ne hwr2 hst (by decide))
              have y1 := hst4.cell 1
              have y2 := hst4.frozen 1
              clear hv hw4 hst hgd2 hwr2 h42 h52 h62 h72 hbx hst4 hr66 hg66 hbn
              simp only [Tl.fill, List.drop_succ_cons, List.drop_zero]
              simp only [Act.put, List.setIfInBounds_toArray, List.set_cons_succ, List.set_cons_zero, v66, v68]
              clear v66 v68
              go_wp2_with fail
              go_roundg g1
              case measure => omega
              case rel => exact ⟨k + 1, by omega, by first | rfl | simp, by rw [HNX.out]; exact AfterR.trans HS2.out HO2.out hA4.out⟩
        · have q3 : zz < 0 := by omega
          have HNX := hid (show keptR r.writes ks (k + 1) = keptR r.writes ks k from by rw [HKP.out, HKE.out, if_neg hz0, List.append_nil])
          clear HKP HKE HKL hz0
          go_wp2_with fail
          go_roundg g1
          case measure => omega
          case rel => exact ⟨k + 1, by omega, by first | rfl | simp, by rw [HNX.out]; exact HA.out⟩
      · have q2 : ¬ ((k : Int) < (ks.length : Int)) := by omega
        have HE := hid (show keptR r.writes ks k = keptR r.writes ks r.writes.length from by
          have h2 := HN.out
          rw [show r.writes.length = k + (r.writes.length - k) from by omega, keptR_end (.inr (by omega))])
        obtain ⟨S2, hi2, hs2, ho2⟩ := HA.out
        have HO := refObjects_any hi2 (by
          have := keptR_len r.writes ks k
          have h2 := HN.out
          show r.good.length + (keptR r.writes ks k).length ≤ _
          omega)
        have HI2 := hid hi2
        have HS2 := hid hs2
        have HO2 := hid ho2
        have HB2 := hid (show b < wr.heap.size from by obtain ⟨_, _, hh, _⟩ := hi2; exact hh.lt)
        unfold ptr at HO
        clear hi2 hs2 ho2 HA HK1 HR1
        go_wp2_with fail
        refine HO.mono ?_
        clear HO
        rintro x w5 ⟨v, rfl, hr, hb⟩
        obtain ⟨va, vc, rfl⟩ := row_slice hr
        have HG := hid (AfterR.good HI2.out hr hb)
        obtain ⟨gv', wv', h1, _⟩ := HI2.out.below hb
        generalize (seenR { r with writes := keptR r.writes ks k }).length = L at *
        have f0 := h1.frozen 0
        have k0 : w5.cell? ⟨b, 0, none⟩ = some gv' := h1.cell 0
        have g1 := h1.set 0 (.slice va L vc)
        have f1 := g1.frozen 1
        have k1 : (w5.setCell ⟨b, 0, none⟩ (.slice va L vc)).cell? ⟨b, 1, none⟩ = some wv' := g1.cell 1
        clear hr hb h1 g1
        go_wp2_with fail
        go_end0
        refine ⟨rfl, ?_⟩
        show AfterR w _ S b { r with good := (keptR r.writes ks r.writes.length).foldl stepR r.good, writes := [] }
        rw [← HE.out]
        exact AfterR.trans (fun i hi => (HS2.out i hi).elim (fun h => .inl (HSS.out i h)) (fun h => .inr (Nat.le_trans HO1.out.size h))) (HO1.out.trans HO2.out fun i hi => .inl (HSS.out i hi)) HG.out
end Go.Proofs.YtgdiaflikfdnaaaGreat
