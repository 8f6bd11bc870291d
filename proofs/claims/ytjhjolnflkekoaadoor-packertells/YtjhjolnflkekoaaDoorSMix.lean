/- The contract of mix: what the eight numbers become by one block; of what was there nothing changes. -/
import Derived.Test.YtjhjolnflkekoaaDoorSWords
import Derived.Deep.RegionHeld3
import Derived.Deep.QuietTactic
import Derived.BigQuiet
import Derived.Deep.Light
import Derived.KernelRfl
namespace Go.Proofs.YtjhjolnflkekoaaDoor.S
open Go.RowKit
/-- what mix's memory holds while it goes -/
structure MixW (s : Sha.S8) (b : List Nat) (N c5 : Nat) (w W : World) : Prop where
  h0 : Has W N (S8v s) 65
  h2 : Has W (N + 1 + 1) (S8v ⟨0, 0, 0, 0, 0, 0, 0, 0⟩) 65
  h5 : Has W c5 (U32s (Sha.ws b)) 93
  h1 : HasC W 1 (U32s Sha.cube)
  bl : Below N w W
set_option maxRecDepth 20000 in
set_option maxHeartbeats 1000000 in
theorem mix_any (s : Sha.S8) (hs : s.ok) (b : List Nat) (hb : b.length = 64) (hbb : ∀ x ∈ b, x < 256) (w : World) (ht : Tabs w) :
    Calls Tryd.prog 45 #[.agg (S8v s), .agg (U8s b)] w fun e w' => e = .returned (.agg (S8v (Sha.mix s b))) ∧ Below w.heap.size w w' := by
  unfold S8v
  have hcu := ht.cu
  have hsz := hcu.lt
  go_enter Tryd.func45, Tryd.ntmps45
  have hrng : Hid (∀ o, (((w.alloc (Obj.cells (S8v s) 65)).alloc (Obj.cells (U8s b) 76)).alloc o).rangeAt (w.heap.size + 1) 0 (U8s b).toList) := fun o => ((Has.new _ _ _ _ (by simp)).alloc o).range
  have hi59 : Hid ((Tryd.prog.info? 76).map (·.size) = some (U8s b).toList.length) := by
    unfold Hid; rw [show (U8s b).toList.length = 64 by rw [Array.length_toList, U8s_size, hb]]; kernel_rfl
  have hones : Hid ((U32s (Sha.ws b)).all (·.oneCell') = true) := by unfold Hid; simp [U32s, Value.oneCell']
  have hi68 : Hid ((Tryd.prog.info? 93).map (·.size) = some (U32s (Sha.ws b)).size) := by
    unfold Hid; rw [show (U32s (Sha.ws b)).size = 64 by rw [U32s_size, Sha.ws_length]]; kernel_rfl
  go_wp2_with (refine wpList_load_mid rfl 76 _ rfl (w.heap.size + 1) 0 rfl _ _ (hrng.out _) Tryd.underlying76 rfl hi59.out ?_)
  refine (words_any b hb hbb _).mono ?_
  rintro e w1 ⟨rfl, hb1⟩
  have hz1 : w.heap.size + 2 < w1.heap.size := by have := hb1.size; simp at this; omega
  have hthere : Hid (∀ zs : Array Value, zs.size = 64 → (w1.alloc (Obj.cells zs 93)).there w1.heap.size 0 (U32s (Sha.ws b)).size) := fun zs hzs => (Has.new w1 w1.heap.size zs 93 rfl).there 0 _ (by rw [U32s_size, Sha.ws_length]; omega)
  go_wp2_with (refine wpList_store_mid rfl 93 _ _ rfl w1.heap.size 0 _ rfl rfl (hthere.out _ rfl) hi68.out hones.out ?_)
  have hF : ∀ zs : Array Value, zs.size = 64 → MixW s b w.heap.size w1.heap.size w ((w1.alloc (Obj.cells zs 93)).setCells w1.heap.size 0 (U32s (Sha.ws b)).toList) := by
    intro zs hzs
    refine ⟨?_, ?_, ?_, ?_, ?_⟩
    · exact has_setCells_other (by omega) _ _ (Has.alloc (Has.below (((Has.new _ _ _ _ rfl).alloc _).alloc _) hb1 (by simp only [World.size_alloc]; omega)) _)
    · exact has_setCells_other (by omega) _ _ (Has.alloc (Has.below (Has.new _ _ _ _ (by simp)) hb1 (by simp)) _)
    · exact has_setRow (Has.new _ _ _ _ rfl) (by rw [U32s_size, Sha.ws_length, hzs])
    · exact hasC_setCells_other (by omega) _ _ (HasC.alloc (HasC.below (((hcu.alloc _).alloc _).alloc _) hb1 (by simp only [World.size_alloc]; omega)) _)
    · exact below_setCells (by omega) _ _ (Below.alloc ((((Below.refl _ _).alloc (Nat.le_refl _) _).alloc (by simp only [World.size_alloc]; omega) _).alloc (by simp only [World.size_alloc]; omega) _ |>.trans (hb1.mono (by simp only [World.size_alloc]; omega))) (by omega) _)
  refine @gen_world (MixW s b w.heap.size w1.heap.size w) (fun W => Code.wp _ _ _ _ W) _ (hF _ rfl) ?_
  clear hF hthere hones hi68 hi59 hrng hb1 hcu
  generalize w1.heap.size = c5 at hz1 ⊢
  clear w1
  rintro W ⟨h0, h2, h5, h1, hbl⟩
  have k0 : W.cell? ⟨w.heap.size, 0, none⟩ = some (.int .u32 (s.a : Int)) := h0.cell 0
  have k1 : W.cell? ⟨w.heap.size, 1, none⟩ = some (.int .u32 (s.b : Int)) := h0.cell 1
  have k2 : W.cell? ⟨w.heap.size, 2, none⟩ = some (.int .u32 (s.c : Int)) := h0.cell 2
  have k3 : W.cell? ⟨w.heap.size, 3, none⟩ = some (.int .u32 (s.d : Int)) := h0.cell 3
  have k4 : W.cell? ⟨w.heap.size, 4, none⟩ = some (.int .u32 (s.e : Int)) := h0.cell 4
  have k5 : W.cell? ⟨w.heap.size, 5, none⟩ = some (.int .u32 (s.f : Int)) := h0.cell 5
  have k6 : W.cell? ⟨w.heap.size, 6, none⟩ = some (.int .u32 (s.g : Int)) := h0.cell 6
  have k7 : W.cell? ⟨w.heap.size, 7, none⟩ = some (.int .u32 (s.h : Int)) := h0.cell 7
  go_quiet (fail)
  go_wp2
  go_quiet (fail)
  go_wp2
  go_loopw [6, 7, 8, 9, 10, 11, 12, 13, 37] (fun va vb vc vd ve vf vg vh vi wr => ∃ (i : Nat) (t : Sha.S8), i ≤ 64 ∧ t = Sha.rounds Sha.cube (Sha.ws b) i s ∧ va = .int .u32 (t.a : Int) ∧ vb = .int .u32 (t.b : Int) ∧ vc = .int .u32 (t.c : Int) ∧ vd = .int .u32 (t.d : Int) ∧ ve = .int .u32 (t.e : Int) ∧ vf = .int .u32 (t.f : Int) ∧ vg = .int .u32 (t.g : Int) ∧ vh = .int .u32 (t.h : Int) ∧ vi = .int .i64 (i : Int) ∧ MixW s b w.heap.size c5 w wr) (fun _ _ _ _ _ _ _ _ vi _ => 64 - (intOf vi).toNat)
  case atStart => exact ⟨0, s, by omega, rfl, rfl, rfl, rfl, rfl, rfl, rfl, rfl, rfl, rfl, ⟨h0, h2, h5, h1, below_drewN (below_drewN hbl _) _⟩⟩
  case round =>
    clear k0 k1 k2 k3 k4 k5 k6 k7 h0 h2 h5 h1 hbl
    obtain ⟨i, t, hi, ht', rfl, rfl, rfl, rfl, rfl, rfl, rfl, rfl, rfl, hM⟩ := hrel
    obtain ⟨h0, h2, h5, h1, hbl⟩ := hM
    by_cases hlt : i < 64
    · have hok : t.ok := by rw [ht']; exact Sha.rounds_ok _ _ _ _ hs
      have hrs : Hid (Sha.rounds Sha.cube (Sha.ws b) (i + 1) s = Sha.rnd t (Sha.cube.getD i 0) ((Sha.ws b).getD i 0)) := by unfold Hid; rw [ht']; rfl
      have c1 := (h1.cell i).trans (U32s_get Sha.cube i (by have : Sha.cube.length = 64 := rfl; omega))
      have c5' := (h5.cell i).trans (U32s_get (Sha.ws b) i (by rw [Sha.ws_length]; omega))
      clear ht'
      generalize Sha.cube.getD i 0 = kk at c1 hrs
      generalize (Sha.ws b).getD i 0 = ww at c5' hrs
      obtain ⟨a, b', c, d, e, f, g, h⟩ := t
      obtain ⟨ha, hb', hc, hd, he, hf, hg, hh⟩ := hok
      simp only at ha hb' hc hd he hf hg hh
      have i0 : (0 : Int) ≤ (i : Int) := by omega
      have i1 : (i : Int) < 64 := by omega
      go_wp2
      go_quiet ((go_at_call 56; exact Calls.quiet_of_same (turn_lit _ _ _ (by assumption) (by decide) (by decide))))
      go_wp2_with (go_at_call 56; refine (turn_lit _ _ _ (by assumption) (by decide) (by decide)).mono ?_; rintro e w' ⟨rfl, rfl⟩)
      go_light
      simp only [tX_close e f g h kk ww he hf hg, tY_close a b' c ha hb' hc]
      exact ⟨⟨i + 1, _, by omega, hrs.out.symm, by simp [Sha.rnd], rfl, rfl, rfl, by simp [Sha.rnd], rfl, rfl, rfl, by go_num, ⟨h0, h2, h5, h1, below_drewN hbl _⟩⟩, by simp [intOf]; omega⟩
    · obtain rfl : i = 64 := by omega
      have hok : t.ok := by rw [ht']; exact Sha.rounds_ok _ _ _ _ hs
      have hmix : Hid (Sha.mix s b = Sha.plus s t) := by unfold Hid Sha.mix; rw [ht']
      clear ht'
      have hidx : Hid (∀ j : Nat, j < 8 → ∀ w, (Instr.index 65 (.agg #[Value.int .u32 (t.a : Int), Value.int .u32 (t.b : Int), Value.int .u32 (t.c : Int), Value.int .u32 (t.d : Int), Value.int .u32 (t.e : Int), Value.int .u32 (t.f : Int), Value.int .u32 (t.g : Int), Value.int .u32 (t.h : Int)]) (.int .i64 (j : Int))).run Tryd.prog w = .ok (.int .u32 (((S8.L t).getD j 0 : Nat) : Int)) w) := by
        intro j hj w
        rcases eight hj with rfl | rfl | rfl | rfl | rfl | rfl | rfl | rfl <;> kernel_rfl
      go_wp2
      go_loopw [109] (fun vj wr => ∃ j : Nat, j ≤ 8 ∧ vj = .int .i64 (j : Int) ∧ Has wr w.heap.size (U32s (part s t j)) 65 ∧ Has wr (w.heap.size + 1 + 1) (S8v ⟨0, 0, 0, 0, 0, 0, 0, 0⟩) 65 ∧ Below w.heap.size w wr) (fun vj _ => 8 - (intOf vj).toNat)
      case atStart => exact ⟨0, by omega, rfl, h0, h2, hbl⟩
      case round =>
        clear h0 h2 h5 h1 hbl hi hlt
        obtain ⟨j, hj, rfl, h0, h2, hbl⟩ := hrel
        by_cases hlt : j < 8
        · have hx := hidx.out j hlt
          have hk := ((h0.cell j).trans (U32s_get _ j (by rw [part_length _ _ _ hj]; exact hlt)))
          rw [part_get s t j hlt] at hk
          have hf := h0.frozen j
          have i0 : (0 : Int) ≤ (j : Int) := by omega
          have i1 : (j : Int) < 8 := by omega
          have h3 := h0.set j (.int .u32 (((((S8.L s).getD j 0 : Nat) : Int) + (((S8.L t).getD j 0 : Nat) : Int)) % 4294967296))
          rw [part_step s t j hlt] at h3
          have H3 : Hid _ := h3
          clear h3
          generalize (S8.L s).getD j 0 = x at hk H3
          generalize (S8.L t).getD j 0 = y at hx H3
          go_wp2
          go_light
          refine ⟨⟨j + 1, by omega, by go_num, H3.out, h2.other _ _ (by show w.heap.size + 1 + 1 ≠ w.heap.size; omega), hbl.setCell (Nat.le_refl _) _⟩, by simp [intOf]; omega⟩
        · obtain rfl : j = 8 := by omega
          rw [part_8, ← hmix.out] at h0
          clear hidx hok hlt
          have hi1 : Hid ((Tryd.prog.info? 65).map (·.size) = some (S8v (Sha.mix s b)).toList.length) := by
            unfold Hid; rw [show (S8v (Sha.mix s b)).toList.length = 8 from rfl]; kernel_rfl
          have hi2 : Hid ((Tryd.prog.info? 65).map (·.size) = some (S8v (Sha.mix s b)).toList.toArray.size) := by
            unfold Hid; rw [show (S8v (Sha.mix s b)).toList.toArray.size = 8 from rfl]; kernel_rfl
          have hone : Hid ((S8v (Sha.mix s b)).toList.toArray.all (·.oneCell') = true) := by unfold Hid S8v; simp [Value.oneCell']
          have Hr : Hid (wr.rangeAt w.heap.size 0 (S8v (Sha.mix s b)).toList) := h0.range
          have Ht : Hid (wr.there (w.heap.size + 1 + 1) 0 (S8v (Sha.mix s b)).toList.toArray.size) := h2.there 0 8 (by decide)
          generalize hm : S8v (Sha.mix s b) = m at Hr Ht hi1 hi2 hone ⊢
          have Hm : Hid _ := hm
          clear h0 h2 hmix hm
          go_wp2_with (first
            | (refine wpList_load_mid rfl 65 _ rfl w.heap.size 0 rfl _ _ Hr.out Tryd.underlying65 rfl hi1.out ?_)
            | (refine wpList_store_mid rfl 65 _ _ rfl (w.heap.size + 1 + 1) 0 _ rfl rfl Ht.out hi2.out hone.out ?_))
          go_light
          refine bodyPost_ret (v := .agg m.toList.toArray) ?_ rfl ⟨by rw [Array.toArray_toList, ← Hm.out]; rfl, ?_⟩
          · rw [results_one_cell Tryd.results45]
            have hr2 := World.rangeAt_setCells_same wr (w.heap.size + 1 + 1) 0 m.toList (by simpa using Ht.out)
            exact ret_row (by simp [Act.put]) hr2 Tryd.underlying65 rfl hi1.out
          · exact below_setCells (by omega) _ _ hbl
end Go.Proofs.YtjhjolnflkekoaaDoor.S
