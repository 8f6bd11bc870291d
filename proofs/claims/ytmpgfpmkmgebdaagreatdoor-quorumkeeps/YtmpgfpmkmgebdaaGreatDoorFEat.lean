/- The contract of words: a block's 64 numbers; of what was there nothing changes. -/
import Derived.Test.YtmpgfpmkmgebdaaGreatDoorFTurn
import Derived.Deep.RegionHeld3
import Derived.Deep.QuietTactic
import Derived.BigQuiet
import Derived.Deep.Light
import Derived.KernelRfl
import Derived.Laws.IdiomCopy
namespace Go.Proofs.YtmpgfpmkmgebdaaGreatDoor.F
open Go.RowKit
theorem growN_lt (n : Nat) (l : List Nat) (h : ∀ x ∈ l, x < 4294967296) : ∀ x ∈ Sha.growN n l, x < 4294967296 := by
  induction n with
  | zero => exact h
  | succ n ih =>
    intro x hx
    simp only [Sha.growN, Sha.grow, List.mem_append, List.mem_singleton] at hx
    rcases hx with hx | rfl
    · exact ih x hx
    · exact Sha.nextW_lt _ _ _ _
theorem firstWs_lt (b : List Nat) (hbb : ∀ x ∈ b, x < 256) (n : Nat) : ∀ x ∈ Sha.firstWs b n, x < 4294967296 := by
  intro x hx
  simp only [Sha.firstWs, List.mem_map] at hx
  obtain ⟨i, _, rfl⟩ := hx
  exact Sha.word_lt b hbb i
theorem fill_cell (l : List Nat) (n i : Nat) (h : i < l.length) (hl : l.length ≤ n) : (U32s (fillUp l n))[i]? = some (.int .u32 ((l.getD i 0 : Nat) : Int)) := by
  rw [U32s_get _ _ (by rw [fillUp_length _ _ hl]; omega), fillUp_get _ _ _ h]
set_option maxHeartbeats 1000000 in
theorem words_any (b : List Nat) (hb : b.length = 64) (hbb : ∀ x ∈ b, x < 256) (w : World) :
    Calls Tryz.prog 168 #[.agg (U8s b)] w fun e w' => e = .returned (.agg (U32s (Sha.ws b))) ∧ Below w.heap.size w w' := by
  have hz : U32s (fillUp (Sha.firstWs b 0) 64) = #[Value.int .u32 0, .int .u32 0, .int .u32 0, .int .u32 0, .int .u32 0, .int .u32 0, .int .u32 0, .int .u32 0, .int .u32 0, .int .u32 0, .int .u32 0, .int .u32 0, .int .u32 0, .int .u32 0, .int .u32 0, .int .u32 0, .int .u32 0, .int .u32 0, .int .u32 0, .int .u32 0, .int .u32 0, .int .u32 0, .int .u32 0, .int .u32 0, .int .u32 0, .int .u32 0, .int .u32 0, .int .u32 0, .int .u32 0, .int .u32 0, .int .u32 0, .int .u32 0, .int .u32 0, .int .u32 0, .int .u32 0, .int .u32 0, .int .u32 0, .int .u32 0, .int .u32 0, .int .u32 0, .int .u32 0, .int .u32 0, .int .u32 0, .int .u32 0, .int .u32 0, .int .u32 0, .int .u32 0, .int .u32 0, .int .u32 0, .int .u32 0, .int .u32 0, .int .u32 0, .int .u32 0, .int .u32 0, .int .u32 0, .int .u32 0, .int .u32 0, .int .u32 0, .int .u32 0, .int .u32 0, .int .u32 0, .int .u32 0, .int .u32 0, .int .u32 0] := rfl
  have HZ : Hid _ := hz
  clear hz
  go_enter Tryz.func168, Tryz.ntmps168
  go_wp2
  go_loopw [10] (fun i wr => ∃ k : Nat, k ≤ 16 ∧ i = .int .i64 k ∧ Has wr w.heap.size (U8s b) 214 ∧ (∃ zs, zs.size = 64 ∧ Has wr (w.heap.size + 1) zs 239) ∧ Has wr (w.heap.size + 1 + 1) (U32s (fillUp (Sha.firstWs b k) 64)) 239 ∧ Below w.heap.size w wr) (fun i _ => 16 - (intOf i).toNat)
  case atStart =>
    refine ⟨0, by omega, rfl, ((Has.new _ _ _ _ rfl).alloc _).alloc _, ⟨_, ?_, (Has.new _ _ _ _ (by simp)).alloc _⟩, ?_, ?_⟩
    · rfl
    · rw [HZ.out]; exact Has.new _ _ _ _ (by simp)
    · exact (((Below.refl _ _).alloc (Nat.le_refl _) _).alloc (by simp) _).alloc (by simp; omega) _
  case round =>
    obtain ⟨k, hk, rfl, h1, ⟨zs, hzs, h2⟩, h3, hbl⟩ := hrel
    have hN := h1.lt
    clear HZ
    by_cases hlt : k < 16
    · have g0 := getD_lt b 256 (by decide) hbb (4 * k)
      have g1 := getD_lt b 256 (by decide) hbb (4 * k + 1)
      have g2 := getD_lt b 256 (by decide) hbb (4 * k + 2)
      have g3 := getD_lt b 256 (by decide) hbb (4 * k + 3)
      have HV := or4 _ _ _ _ g0 g1 g2 g3
      have hv : Hid _ := HV
      have c0n := (h1.cell (4 * k)).trans (U8s_get b _ (by omega))
      have c0 : wr.cell? ⟨w.heap.size, (4 * (k : Int)).toNat, none⟩ = some (.int .u8 ((b.getD (4 * k) 0 : Nat) : Int)) := by
        rw [show (4 * (k : Int)).toNat = 4 * k by omega]; exact c0n
      have c1 : wr.cell? ⟨w.heap.size, (4 * (k : Int) + 1).toNat, none⟩ = some (.int .u8 ((b.getD (4 * k + 1) 0 : Nat) : Int)) := by
        rw [show (4 * (k : Int) + 1).toNat = 4 * k + 1 by omega]; exact (h1.cell (4 * k + 1)).trans (U8s_get b _ (by omega))
      have c2 : wr.cell? ⟨w.heap.size, (4 * (k : Int) + 2).toNat, none⟩ = some (.int .u8 ((b.getD (4 * k + 2) 0 : Nat) : Int)) := by
        rw [show (4 * (k : Int) + 2).toNat = 4 * k + 2 by omega]; exact (h1.cell (4 * k + 2)).trans (U8s_get b _ (by omega))
      have c3 : wr.cell? ⟨w.heap.size, (4 * (k : Int) + 3).toNat, none⟩ = some (.int .u8 ((b.getD (4 * k + 3) 0 : Nat) : Int)) := by
        rw [show (4 * (k : Int) + 3).toNat = 4 * k + 3 by omega]; exact (h1.cell (4 * k + 3)).trans (U8s_get b _ (by omega))
      have c4 := (h3.cell k).trans (U32s_get _ k (by rw [fillUp_length _ _ (by rw [Sha.firstWs_length]; omega)]; omega))
      have f4 := h3.frozen k
      have b0 : (0 : Int) ≤ 4 * (k : Int) := by omega
      have b1 : 4 * (k : Int) < 64 := by omega
      have b2 : 4 * (k : Int) + 1 < 64 := by omega
      have b3 : 4 * (k : Int) + 2 < 64 := by omega
      have b4 : 4 * (k : Int) + 3 < 64 := by omega
      have b5 : (0 : Int) ≤ 4 * (k : Int) + 1 := by omega
      have b6 : (0 : Int) ≤ 4 * (k : Int) + 2 := by omega
      have b7 : (0 : Int) ≤ 4 * (k : Int) + 3 := by omega
      have b8 : (k : Int) < 64 := by omega
      have e0 : IntKind.i64.wrap (4 * (k : Int)) = 4 * (k : Int) := wrap_i64_of (by omega) (by omega)
      have e1 : IntKind.i64.wrap (4 * (k : Int) + 1) = 4 * (k : Int) + 1 := wrap_i64_of (by omega) (by omega)
      have e2 : IntKind.i64.wrap (4 * (k : Int) + 2) = 4 * (k : Int) + 2 := wrap_i64_of (by omega) (by omega)
      have e3 : IntKind.i64.wrap (4 * (k : Int) + 3) = 4 * (k : Int) + 3 := wrap_i64_of (by omega) (by omega)
      have hne : Hid (w.heap.size + 1 + 1 ≠ w.heap.size) := by unfold Hid; omega
      clear HV g0 g1 g2 g3
      go_wp2
      go_region_held3 (fun w' => w'.cell? ⟨w.heap.size, (4 * (k : Int)).toNat, none⟩ = some (.int .u8 ((b.getD (4 * k) 0 : Nat) : Int)) ∧ w'.cell? ⟨w.heap.size, (4 * (k : Int) + 1).toNat, none⟩ = some (.int .u8 ((b.getD (4 * k + 1) 0 : Nat) : Int)) ∧ w'.cell? ⟨w.heap.size, (4 * (k : Int) + 2).toNat, none⟩ = some (.int .u8 ((b.getD (4 * k + 2) 0 : Nat) : Int)) ∧ w'.cell? ⟨w.heap.size, (4 * (k : Int) + 3).toNat, none⟩ = some (.int .u8 ((b.getD (4 * k + 3) 0 : Nat) : Int))) (first | exact ⟨c0, c1, c2, c3⟩ | exact ⟨cell_set_drew c0 hne.out, cell_set_drew c1 hne.out, cell_set_drew c2 hne.out, cell_set_drew c3 hne.out⟩) (fail)
      go_wp2
      go_light
      refine ⟨⟨k + 1, by omega, by go_num, (h1.other _ _ (by simp; omega)).drew, ⟨zs, hzs, (h2.other _ _ (by simp)).drew⟩, ?_, (hbl.setCell (by simp; omega) _).drew⟩, by simp [intOf]; omega⟩
      have h4 := h3.set k (.int .u32 (Sha.word b k : Nat))
      rw [fillUp_snoc _ _ _ _ (by rw [Sha.firstWs_length]) (by rw [Sha.firstWs_length]; omega), ← firstWs_succ] at h4
      unfold Hid at hv
      simp only [List.getD_eq_getElem?_getD, IntKind.wrap_u32'] at hv
      rw [hv]
      have h5 : Has _ _ _ _ := h4.drew
      simpa [Sha.word, List.getD_eq_getElem?_getD] using h5
    · obtain rfl : k = 16 := by omega
      go_wp2
      go_loopw [5] (fun i wr => ∃ n : Nat, n ≤ 48 ∧ i = .int .i64 ((n : Int) + 16) ∧ (∃ zs, zs.size = 64 ∧ Has wr (w.heap.size + 1) zs 239) ∧ Has wr (w.heap.size + 1 + 1) (U32s (fillUp (Sha.growN n (Sha.firstWs b 16)) 64)) 239 ∧ Below w.heap.size w wr) (fun i _ => 64 - (intOf i).toNat)
      case atStart => exact ⟨0, by omega, rfl, ⟨zs, hzs, h2⟩, h3, hbl⟩
      case round =>
        clear h1 h2 h3 hbl hlt hk
        obtain ⟨n, hn, rfl, ⟨zs, hzs, h2⟩, h3, hbl⟩ := hrel
        by_cases hlt : n < 48
        · have hlen : Hid ((Sha.growN n (Sha.firstWs b 16)).length = n + 16) := by
            unfold Hid; rw [Sha.growN_length, Sha.firstWs_length]; omega
          have hall := growN_lt n _ (firstWs_lt b hbb 16)
          have hsuc : Hid (Sha.growN (n + 1) (Sha.firstWs b 16) = Sha.grow (Sha.growN n (Sha.firstWs b 16))) := rfl
          generalize Sha.growN n (Sha.firstWs b 16) = l at h3 hlen hall hsuc
          have hp := getD_lt l _ (by decide) hall (n + 1)
          have hq := getD_lt l _ (by decide) hall (n + 14)
          have hr := getD_lt l _ (by decide) hall n
          have hs := getD_lt l _ (by decide) hall (n + 9)
          have c1 := (h3.cell (n + 1)).trans (fill_cell l 64 (n + 1) (by rw [hlen.out]; omega) (by rw [hlen.out]; omega))
          have c2 := (h3.cell (n + 14)).trans (fill_cell l 64 (n + 14) (by rw [hlen.out]; omega) (by rw [hlen.out]; omega))
          have c3 := (h3.cell n).trans (fill_cell l 64 n (by rw [hlen.out]; omega) (by rw [hlen.out]; omega))
          have c4 := (h3.cell (n + 9)).trans (fill_cell l 64 (n + 9) (by rw [hlen.out]; omega) (by rw [hlen.out]; omega))
          have hgr : Hid (Sha.grow l = l ++ [Sha.nextW (l.getD n 0) (l.getD (n + 9) 0) (l.getD (n + 1) 0) (l.getD (n + 14) 0)]) := by
            unfold Hid Sha.grow; rw [hlen.out]
            rw [show n + 16 - 16 = n by omega, show n + 16 - 7 = n + 9 by omega, show n + 16 - 15 = n + 1 by omega, show n + 16 - 2 = n + 14 by omega]
          generalize l.getD n 0 = r at hr c3 hgr
          generalize l.getD (n + 1) 0 = p at hp c1 hgr
          generalize l.getD (n + 14) 0 = q at hq c2 hgr
          generalize l.getD (n + 9) 0 = s at hs c4 hgr
          have c5 := (h3.cell (n + 16)).trans (U32s_get _ (n + 16) (by rw [fillUp_length _ _ (by rw [hlen.out]; omega)]; omega))
          have f5 := h3.frozen (n + 16)
          clear hall
          have t1 : ((n : Int) + 16 - 15) = (n : Int) + 1 := by omega
          have t2 : ((n : Int) + 16 - 2) = (n : Int) + 14 := by omega
          have t3 : ((n : Int) + 16 - 16) = (n : Int) := by omega
          have t4 : ((n : Int) + 16 - 7) = (n : Int) + 9 := by omega
          have u1 : ((n : Int) + 1).toNat = n + 1 := by omega
          have u2 : ((n : Int) + 14).toNat = n + 14 := by omega
          have u4 : ((n : Int) + 9).toNat = n + 9 := by omega
          have u5 : ((n : Int) + 16).toNat = n + 16 := by omega
          have v0 : (0 : Int) ≤ (n : Int) := by omega
          have v1 : (n : Int) + 1 < 64 := by omega
          have v2 : (n : Int) + 14 < 64 := by omega
          have v3 : (n : Int) < 64 := by omega
          have v4 : (n : Int) + 9 < 64 := by omega
          have v5 : (n : Int) + 16 < 64 := by omega
          have w1 : (0 : Int) ≤ (n : Int) + 1 := by omega
          have w2 : (0 : Int) ≤ (n : Int) + 14 := by omega
          have w4 : (0 : Int) ≤ (n : Int) + 9 := by omega
          have w5 : (0 : Int) ≤ (n : Int) + 16 := by omega
          go_wp2
          go_quiet (fail)
          go_wp2_with (go_at_call 169; refine (turn_lit _ _ _ (by assumption) (by decide) (by decide)).mono ?_; rintro e w' ⟨rfl, rfl⟩)
          simp only [sig0_close p hp, sig1_close q hq]
          have hne1 : Hid (n + 16 ≠ n) := by unfold Hid; omega
          have hne2 : Hid (n + 16 ≠ n + 9) := by unfold Hid; omega
          have e3 : IntKind.i64.wrap (n : Int) = (n : Int) := wrap_i64_of (by omega) (by omega)
          have e4 : IntKind.i64.wrap ((n : Int) + 9) = (n : Int) + 9 := wrap_i64_of (by omega) (by omega)
          go_region_held3 (fun w' => w'.cell? ⟨w.heap.size + 1 + 1, n, none⟩ = some (.int .u32 (r : Int)) ∧ w'.cell? ⟨w.heap.size + 1 + 1, n + 9, none⟩ = some (.int .u32 (s : Int))) (first | exact ⟨c3, c4⟩ | exact ⟨cell_set_off c3 hne1.out, cell_set_off c4 hne2.out⟩ | go_keep) (fail)
          go_wp2
          go_roundw
          case rel =>
            go_light
            have h4 := (h3.drewN (nq + 1)).set (n + 16) (.int .u32 (Sha.nextW r s p q : Nat))
            rw [fillUp_snoc _ _ _ _ hlen.out.symm (by rw [hlen.out]; omega), ← hgr.out, ← hsuc.out, ← next_close] at h4
            (repeat apply Exists.intro)
            exact ⟨⟨n + 1, by omega, by go_num, ⟨zs, hzs, (h2.drewN _).other _ _ (by simp)⟩, h4, (below_drewN hbl _).setCell (by simp; omega) _⟩, rfl⟩
          case measure => simp [intOf]; omega
        · obtain rfl : n = 48 := by omega
          rw [fillUp_full _ _ (by rw [Sha.growN_length, Sha.firstWs_length])] at h3
          have hws : U32s (Sha.growN 48 (Sha.firstWs b 16)) = U32s (Sha.ws b) := rfl
          rw [hws] at h3
          have hl64 : (U32s (Sha.ws b)).size = 64 := by rw [U32s_size, Sha.ws_length]
          have hi : Hid ((Tryz.prog.info? 239).map (·.size) = some (U32s (Sha.ws b)).toList.length) := by
            unfold Hid; rw [show (U32s (Sha.ws b)).toList.length = 64 by rw [Array.length_toList, hl64]]; kernel_rfl
          have hi2 : Hid ((Tryz.prog.info? 239).map (·.size) = some (U32s (Sha.ws b)).toList.toArray.size) := by
            unfold Hid; rw [show (U32s (Sha.ws b)).toList.toArray.size = 64 by simp [hl64]]; kernel_rfl
          have hone : Hid ((U32s (Sha.ws b)).toList.toArray.all (·.oneCell') = true) := by
            unfold Hid; simp [U32s, Value.oneCell']
          have hr3 := h3.range
          have ht2 := h2.there 0 64 (by omega)
          have Hr3 : Hid _ := hr3
          have Ht2 : Hid (wr.there (w.heap.size + 1) 0 (U32s (Sha.ws b)).toList.toArray.size) := by
            unfold Hid; rw [show (U32s (Sha.ws b)).toList.toArray.size = 64 by simp [hl64]]; exact ht2
          clear hr3 ht2 hl64 hws
          go_wp2_with (first
            | (refine wpList_load_mid rfl 239 _ rfl (w.heap.size + 1 + 1) 0 rfl _ _ Hr3.out Tryz.underlying239 rfl hi.out ?_)
            | (refine wpList_store_mid rfl 239 _ _ rfl (w.heap.size + 1) 0 _ rfl rfl Ht2.out hi2.out hone.out ?_))
          go_light
          refine bodyPost_ret (v := .agg (U32s (Sha.ws b)).toList.toArray) ?_ rfl ⟨by simp, ?_⟩
          · rw [results_one_cell Tryz.results168]
            have hr2 := World.rangeAt_setCells_same wr (w.heap.size + 1) 0 (U32s (Sha.ws b)).toList (by simpa using Ht2.out)
            exact ret_row (by simp [Act.put]) hr2 Tryz.underlying239 rfl hi.out
          · exact below_setCells (by omega) _ _ hbl
end Go.Proofs.YtmpgfpmkmgebdaaGreatDoor.F
/- The contract of mix: what the eight numbers become by one block; of what was there nothing changes. -/
namespace Go.Proofs.YtmpgfpmkmgebdaaGreatDoor.F
open Go.RowKit
/-- what mix's memory holds while it goes -/
structure MixW (s : Sha.S8) (b : List Nat) (N c5 : Nat) (w W : World) : Prop where
  h0 : Has W N (S8v s) 194
  h2 : Has W (N + 1 + 1) (S8v ⟨0, 0, 0, 0, 0, 0, 0, 0⟩) 194
  h5 : Has W c5 (U32s (Sha.ws b)) 239
  h1 : HasC W 2 (U32s Sha.cube)
  bl : Below N w W
set_option maxRecDepth 20000 in
set_option maxHeartbeats 1000000 in
theorem mix_any (s : Sha.S8) (hs : s.ok) (b : List Nat) (hb : b.length = 64) (hbb : ∀ x ∈ b, x < 256) (w : World) (ht : Tabs w) :
    Calls Tryz.prog 147 #[.agg (S8v s), .agg (U8s b)] w fun e w' => e = .returned (.agg (S8v (Sha.mix s b))) ∧ Below w.heap.size w w' := by
  unfold S8v
  have hcu := ht.cu
  have hsz := hcu.lt
  go_enter Tryz.func147, Tryz.ntmps147
  have hrng : Hid (∀ o, (((w.alloc (Obj.cells (S8v s) 194)).alloc (Obj.cells (U8s b) 214)).alloc o).rangeAt (w.heap.size + 1) 0 (U8s b).toList) := fun o => ((Has.new _ _ _ _ (by simp)).alloc o).range
  have hi59 : Hid ((Tryz.prog.info? 214).map (·.size) = some (U8s b).toList.length) := by
    unfold Hid; rw [show (U8s b).toList.length = 64 by rw [Array.length_toList, U8s_size, hb]]; kernel_rfl
  have hones : Hid ((U32s (Sha.ws b)).all (·.oneCell') = true) := by unfold Hid; simp [U32s, Value.oneCell']
  have hi68 : Hid ((Tryz.prog.info? 239).map (·.size) = some (U32s (Sha.ws b)).size) := by
    unfold Hid; rw [show (U32s (Sha.ws b)).size = 64 by rw [U32s_size, Sha.ws_length]]; kernel_rfl
  go_wp2_with (refine wpList_load_mid rfl 214 _ rfl (w.heap.size + 1) 0 rfl _ _ (hrng.out _) Tryz.underlying214 rfl hi59.out ?_)
  refine (words_any b hb hbb _).mono ?_
  rintro e w1 ⟨rfl, hb1⟩
  have hz1 : w.heap.size + 2 < w1.heap.size := by have := hb1.size; simp at this; omega
  have hthere : Hid (∀ zs : Array Value, zs.size = 64 → (w1.alloc (Obj.cells zs 239)).there w1.heap.size 0 (U32s (Sha.ws b)).size) := fun zs hzs => (Has.new w1 w1.heap.size zs 239 rfl).there 0 _ (by rw [U32s_size, Sha.ws_length]; omega)
  go_wp2_with (refine wpList_store_mid rfl 239 _ _ rfl w1.heap.size 0 _ rfl rfl (hthere.out _ rfl) hi68.out hones.out ?_)
  have hF : ∀ zs : Array Value, zs.size = 64 → MixW s b w.heap.size w1.heap.size w ((w1.alloc (Obj.cells zs 239)).setCells w1.heap.size 0 (U32s (Sha.ws b)).toList) := by
    intro zs hzs
    refine ⟨?_, ?_, ?_, ?_, ?_⟩
    · exact has_setCells_other (by omega) _ _ (Has.alloc (Has.below (((Has.new _ _ _ _ rfl).alloc _).alloc _) hb1 (by simp only [World.size_alloc]; omega)) _)
    · exact has_setCells_other (by omega) _ _ (Has.alloc (Has.below (Has.new _ _ _ _ (by simp)) hb1 (by simp)) _)
    · exact has_setRow (Has.new _ _ _ _ rfl) (by rw [U32s_size, Sha.ws_length, hzs])
    · exact hasC_setCells_other (by omega) _ _ (HasC.alloc (HasC.below (((hcu.alloc _).alloc _).alloc _) hb1 (by simp only [World.size_alloc]; omega)) _)
    · exact below_setCells (by omega) _ _ (Below.alloc ((((Below.refl _ _).alloc (Nat.le_refl _) _).alloc (by simp only [World.size_alloc]; omega) _).alloc (by simp only [World.size_alloc]; omega) _ |>.trans (hb1.mono (by simp only [World.size_alloc]; omega))) (by omega) _)
  refine @gen_world (MixW s b w.heap.size w1.heap.size w) (fun W => Code.wp _ _ _ _ W) _ (hF _ rfl) ?_
  clear hF hthere hones hi68 hi59 hrng hb1 hcu
  generalize w1.heap.size = c5 at hz1 ⊢
  clear w1
  rintro W ⟨h0, h2, h5, h1, hbl⟩
  have k0 : W.cell? ⟨w.heap.size, 0, none⟩ = some (.int .u32 (s.a : Int)) := h0.cell 0
  have k1 : W.cell? ⟨w.heap.size, 1, none⟩ = some (.int .u32 (s.b : Int)) := h0.cell 1
  have k2 : W.cell? ⟨w.heap.size, 2, none⟩ = some (.int .u32 (s.c : Int)) := h0.cell 2
  have k3 : W.cell? ⟨w.heap.size, 3, none⟩ = some (.int .u32 (s.d : Int)) := h0.cell 3
  have k4 : W.cell? ⟨w.heap.size, 4, none⟩ = some (.int .u32 (s.e : Int)) := h0.cell 4
  have k5 : W.cell? ⟨w.heap.size, 5, none⟩ = some (.int .u32 (s.f : Int)) := h0.cell 5
  have k6 : W.cell? ⟨w.heap.size, 6, none⟩ = some (.int .u32 (s.g : Int)) := h0.cell 6
  have k7 : W.cell? ⟨w.heap.size, 7, none⟩ = some (.int .u32 (s.h : Int)) := h0.cell 7
  go_quiet (fail)
  go_wp2
  go_quiet (fail)
  go_wp2
  go_loopw [6, 7, 8, 9, 10, 11, 12, 13, 37] (fun va vb vc vd ve vf vg vh vi wr => ∃ (i : Nat) (t : Sha.S8), i ≤ 64 ∧ t = Sha.rounds Sha.cube (Sha.ws b) i s ∧ va = .int .u32 (t.a : Int) ∧ vb = .int .u32 (t.b : Int) ∧ vc = .int .u32 (t.c : Int) ∧ vd = .int .u32 (t.d : Int) ∧ ve = .int .u32 (t.e : Int) ∧ vf = .int .u32 (t.f : Int) ∧ vg = .int .u32 (t.g : Int) ∧ vh = .int .u32 (t.h : Int) ∧ vi = .int .i64 (i : Int) ∧ MixW s b w.heap.size c5 w wr) (fun _ _ _ _ _ _ _ _ vi _ => 64 - (intOf vi).toNat)
  case atStart => exact ⟨0, s, by omega, rfl, rfl, rfl, rfl, rfl, rfl, rfl, rfl, rfl, rfl, ⟨h0, h2, h5, h1, below_drewN (below_drewN hbl _) _⟩⟩
  case round =>
    clear k0 k1 k2 k3 k4 k5 k6 k7 h0 h2 h5 h1 hbl
    obtain ⟨i, t, hi, ht', rfl, rfl, rfl, rfl, rfl, rfl, rfl, rfl, rfl, hM⟩ := hrel
    obtain ⟨h0, h2, h5, h1, hbl⟩ := hM
    by_cases hlt : i < 64
    · have hok : t.ok := by rw [ht']; exact Sha.rounds_ok _ _ _ _ hs
      have hrs : Hid (Sha.rounds Sha.cube (Sha.ws b) (i + 1) s = Sha.rnd t (Sha.cube.getD i 0) ((Sha.ws b).getD i 0)) := by unfold Hid; rw [ht']; rfl
      have c1 := (h1.cell i).trans (U32s_get Sha.cube i (by have : Sha.cube.length = 64 := rfl; omega))
      have c5' := (h5.cell i).trans (U32s_get (Sha.ws b) i (by rw [Sha.ws_length]; omega))
      clear ht'
      generalize Sha.cube.getD i 0 = kk at c1 hrs
      generalize (Sha.ws b).getD i 0 = ww at c5' hrs
      obtain ⟨a, b', c, d, e, f, g, h⟩ := t
      obtain ⟨ha, hb', hc, hd, he, hf, hg, hh⟩ := hok
      simp only at ha hb' hc hd he hf hg hh
      have i0 : (0 : Int) ≤ (i : Int) := by omega
      have i1 : (i : Int) < 64 := by omega
      go_wp2
      go_quiet ((go_at_call 169; exact Calls.quiet_of_same (turn_lit _ _ _ (by assumption) (by decide) (by decide))))
      go_wp2_with (go_at_call 169; refine (turn_lit _ _ _ (by assumption) (by decide) (by decide)).mono ?_; rintro e w' ⟨rfl, rfl⟩)
      go_light
      simp only [tX_close e f g h kk ww he hf hg, tY_close a b' c ha hb' hc]
      exact ⟨⟨i + 1, _, by omega, hrs.out.symm, by simp [Sha.rnd], rfl, rfl, rfl, by simp [Sha.rnd], rfl, rfl, rfl, by go_num, ⟨h0, h2, h5, h1, below_drewN hbl _⟩⟩, by simp [intOf]; omega⟩
    · obtain rfl : i = 64 := by omega
      have hok : t.ok := by rw [ht']; exact Sha.rounds_ok _ _ _ _ hs
      have hmix : Hid (Sha.mix s b = Sha.plus s t) := by unfold Hid Sha.mix; rw [ht']
      clear ht'
      have hidx : Hid (∀ j : Nat, j < 8 → ∀ w, (Instr.index 194 (.agg #[Value.int .u32 (t.a : Int), Value.int .u32 (t.b : Int), Value.int .u32 (t.c : Int), Value.int .u32 (t.d : Int), Value.int .u32 (t.e : Int), Value.int .u32 (t.f : Int), Value.int .u32 (t.g : Int), Value.int .u32 (t.h : Int)]) (.int .i64 (j : Int))).run Tryz.prog w = .ok (.int .u32 (((S8.L t).getD j 0 : Nat) : Int)) w) := by
        intro j hj w
        rcases eight hj with rfl | rfl | rfl | rfl | rfl | rfl | rfl | rfl <;> kernel_rfl
      go_wp2
      go_loopw [109] (fun vj wr => ∃ j : Nat, j ≤ 8 ∧ vj = .int .i64 (j : Int) ∧ Has wr w.heap.size (U32s (part s t j)) 194 ∧ Has wr (w.heap.size + 1 + 1) (S8v ⟨0, 0, 0, 0, 0, 0, 0, 0⟩) 194 ∧ Below w.heap.size w wr) (fun vj _ => 8 - (intOf vj).toNat)
      case atStart => exact ⟨0, by omega, rfl, h0, h2, hbl⟩
      case round =>
        clear h0 h2 h5 h1 hbl hi hlt
        obtain ⟨j, hj, rfl, h0, h2, hbl⟩ := hrel
        by_cases hlt : j < 8
        · have hx := hidx.out j hlt
          have hk := ((h0.cell j).trans (U32s_get _ j (by rw [part_length _ _ _ hj]; exact hlt)))
          rw [part_get s t j hlt] at hk
          have hf := h0.frozen j
          have i0 : (0 : Int) ≤ (j : Int) := by omega
          have i1 : (j : Int) < 8 := by omega
          have h3 := h0.set j (.int .u32 (((((S8.L s).getD j 0 : Nat) : Int) + (((S8.L t).getD j 0 : Nat) : Int)) % 4294967296))
          rw [part_step s t j hlt] at h3
          have H3 : Hid _ := h3
          clear h3
          generalize (S8.L s).getD j 0 = x at hk H3
          generalize (S8.L t).getD j 0 = y at hx H3
          go_wp2
          go_light
          refine ⟨⟨j + 1, by omega, by go_num, H3.out, h2.other _ _ (by show w.heap.size + 1 + 1 ≠ w.heap.size; omega), hbl.setCell (Nat.le_refl _) _⟩, by simp [intOf]; omega⟩
        · obtain rfl : j = 8 := by omega
          rw [part_8, ← hmix.out] at h0
          clear hidx hok hlt
          have hi1 : Hid ((Tryz.prog.info? 194).map (·.size) = some (S8v (Sha.mix s b)).toList.length) := by
            unfold Hid; rw [show (S8v (Sha.mix s b)).toList.length = 8 from rfl]; kernel_rfl
          have hi2 : Hid ((Tryz.prog.info? 194).map (·.size) = some (S8v (Sha.mix s b)).toList.toArray.size) := by
            unfold Hid; rw [show (S8v (Sha.mix s b)).toList.toArray.size = 8 from rfl]; kernel_rfl
          have hone : Hid ((S8v (Sha.mix s b)).toList.toArray.all (·.oneCell') = true) := by unfold Hid S8v; simp [Value.oneCell']
          have Hr : Hid (wr.rangeAt w.heap.size 0 (S8v (Sha.mix s b)).toList) := h0.range
          have Ht : Hid (wr.there (w.heap.size + 1 + 1) 0 (S8v (Sha.mix s b)).toList.toArray.size) := h2.there 0 8 (by decide)
          generalize hm : S8v (Sha.mix s b) = m at Hr Ht hi1 hi2 hone ⊢
          have Hm : Hid _ := hm
          clear h0 h2 hmix hm
          go_wp2_with (first
            | (refine wpList_load_mid rfl 194 _ rfl w.heap.size 0 rfl _ _ Hr.out Tryz.underlying194 rfl hi1.out ?_)
            | (refine wpList_store_mid rfl 194 _ _ rfl (w.heap.size + 1 + 1) 0 _ rfl rfl Ht.out hi2.out hone.out ?_))
          go_light
          refine bodyPost_ret (v := .agg m.toList.toArray) ?_ rfl ⟨by rw [Array.toArray_toList, ← Hm.out]; rfl, ?_⟩
          · rw [results_one_cell Tryz.results147]
            have hr2 := World.rangeAt_setCells_same wr (w.heap.size + 1 + 1) 0 m.toList (by simpa using Ht.out)
            exact ret_row (by simp [Act.put]) hr2 Tryz.underlying194 rfl hi1.out
          · exact below_setCells (by omega) _ _ hbl
end Go.Proofs.YtmpgfpmkmgebdaaGreatDoor.F
/- What copy out of a string into a row of bytes does; bytes of strings as plain numbers. No program in it. -/
namespace Go.Proofs.YtmpgfpmkmgebdaaGreatDoor.F
open Go.RowKit
/-- a string's bytes, as numbers -/
def bs (s : ByteArray) : List Nat := s.data.toList.map (·.toNat)
theorem bs_length (s : ByteArray) : (bs s).length = s.size := by simp [bs]
theorem bs_lt (s : ByteArray) : ∀ x ∈ bs s, x < 256 := by
  intro x hx
  simp only [bs, List.mem_map] at hx
  obtain ⟨b, _, rfl⟩ := hx
  exact b.toNat_lt
theorem bs_drop (s : ByteArray) (k : Nat) : bs (s.extract k s.size) = (bs s).drop k := by
  have e : (s.extract k s.size).data.toList = s.data.toList.drop k := by
    rw [ByteArray.data_extract, Array.toList_extract, List.extract_eq_take_drop, List.take_of_length_le]
    rw [List.length_drop]; exact Nat.le_refl _
  unfold bs; rw [e, List.map_drop]
theorem U8s_one (l : List Nat) : ∀ v ∈ (U8s l).toList, v.oneCell' = true := by
  intro v hv
  simp only [U8s, List.mem_map] at hv
  obtain ⟨b, _, rfl⟩ := hv
  rfl
theorem run_copy_str {P : Program} (w : World) (dT sT ty elem : TypeId) (g o dLen dCap n : Nat) (s : ByteArray) (cur : Array Value) (t : TypeId)
    (hu : P.underlying dT = some (.slice elem)) (hs : (P.info? elem).map (·.size) = some 1) (hg : Has w g cur t) (hn : n = Nat.min s.size dLen) (hfit : o + n ≤ cur.size) :
    (Builtin.copy_ #[dT, sT] ty #[.slice (some ⟨g, o, none⟩) dLen dCap, .string s]).run P w = .ok (goInt n) (w.setCells g o (U8s ((bs s).take n)).toList) := by
  have hl : ((U8s ((bs s).take n)).toList).length = n := by
    rw [Array.length_toList, U8s_size, List.length_take, bs_length, hn]
    exact Nat.min_eq_left (Nat.min_le_left _ _)
  have hst := run_storeCells_cells (P := P) g o (U8s ((bs s).take n)).toList 0 w
    (fun j hj => by rw [hl] at hj; rw [hg.cell]; simp; omega) (fun j _ => hg.frozen _) (U8s_one _)
  have htk : List.take n (List.map (fun b : UInt8 => Value.int IntKind.u8 (b.toNat : Int)) s.data.toList) = (U8s ((bs s).take n)).toList := by
    simp [U8s, bs, List.map_take]
    rfl
  simp only [Nat.add_zero] at hst
  cases hq : P.info? elem with
  | none => simp [hq] at hs
  | some i =>
    simp [Builtin.copy_, run_underlying hu, Builtin.lenOf, Builtin.firstCells, sizeOf, typeInfo, hq]
    have hn' : min s.size dLen = n := hn.symm
    first | rw [← hn, htk, hst] | rw [hn', htk, hst]
    simp [Result.andThen]
theorem wpList_copy_str {P : Program} {w : World} {ops : Array Oper} {rest : List Oper} {o : Oper} {a : Act} {Q : Exit → Act → World → Prop} (hgd : o.guard = none) (d s : Operand) (dT sT : TypeId)
    (ho : o.op = .call { callee := .builtin .copy, args := #[d, s], argTypes := #[dT, sT] }) (elem : TypeId) (hu : P.underlying dT = some (.slice elem)) (hsz : (P.info? elem).map (·.size) = some 1)
    (g off dLen dCap n : Nat) (str : ByteArray) (cur : Array Value) (t : TypeId) (hd : a.eval d = .slice (some ⟨g, off, none⟩) dLen dCap) (hs : a.eval s = .string str)
    (hg : Has w g cur t) (hn : n = Nat.min str.size dLen) (hfit : off + n ≤ cur.size)
    (h : wpList P ops Q rest (a.put o.dst (goInt n)) (w.setCells g off (U8s ((bs str).take n)).toList)) : wpList P ops Q (o :: rest) a w := by
  refine wpList_plain hgd fun K hK => ?_
  have hrun := run_copy_str (P := P) w dT sT o.type elem g off dLen dCap n str cur t hu hsz hg hn hfit
  unfold Oper.wp
  simp [execOp, ho, resolve, invoke, builtin, hd, hs, hrun, Result.andThen]
  exact hK _ _ h
/-- a row of bytes, with others laid into it -/
theorem has_bytes_mid {w : World} {b : Nat} {t : TypeId} {cs vs : List Nat} (h : Has w b (U8s cs) t) (o : Nat) (hl : o + vs.length ≤ cs.length) :
    Has (w.setCells b o (U8s vs).toList) b (U8s (cs.take o ++ vs ++ cs.drop (o + vs.length))) t := by
  have h1 := has_setCells_mid (U8s vs).toList o (U8s cs).toList (by simpa using h) (by simp [U8s]; omega)
  have e : (List.take o (U8s cs).toList ++ (U8s vs).toList ++ List.drop (o + (U8s vs).toList.length) (U8s cs).toList).toArray = U8s (cs.take o ++ vs ++ cs.drop (o + vs.length)) := by
    simp [U8s, List.map_take, List.map_drop]
  rw [e] at h1; exact h1
end Go.Proofs.YtmpgfpmkmgebdaaGreatDoor.F
/- Plain facts on what is eaten block by block: in pieces as at once. No program in it. -/
namespace Go.Proofs.YtmpgfpmkmgebdaaGreatDoor.F
namespace Sha
theorem eat_step (s : S8) (l : List Nat) (h : 64 ≤ l.length) : eat s l = eat (mix s (l.take 64)) (l.drop 64) := by
  unfold eat
  rw [List.length_drop, show l.length / 64 = (l.length - 64) / 64 + 1 by omega]
  rfl
theorem left_step (l : List Nat) (h : 64 ≤ l.length) : left l = left (l.drop 64) := by
  unfold left
  rw [List.length_drop, List.drop_drop, show 64 + 64 * ((l.length - 64) / 64) = 64 * (l.length / 64) by omega]
theorem eat_short (s : S8) (l : List Nat) (h : l.length < 64) : eat s l = s := by
  unfold eat
  rw [show l.length / 64 = 0 by omega]
  rfl
theorem left_short (l : List Nat) (h : l.length < 64) : left l = l := by
  unfold left
  rw [show 64 * (l.length / 64) = 0 by omega]
  rfl
theorem left_length (l : List Nat) : (left l).length = l.length % 64 := by
  unfold left
  rw [List.length_drop]; omega
theorem left_lt (l : List Nat) (h : ∀ x ∈ l, x < 256) : ∀ x ∈ left l, x < 256 := fun x hx => h x (List.mem_of_mem_drop hx)
/-- eaten in two pieces as at once -/
theorem eat_two : ∀ (n : Nat) (s : S8) (l m : List Nat), l.length ≤ n → eat (eat s l) (left l ++ m) = eat s (l ++ m) ∧ left (left l ++ m) = left (l ++ m)
  | n, s, l, m, hn => by
    by_cases h : l.length < 64
    · rw [eat_short _ _ h, left_short _ h]; exact ⟨rfl, rfl⟩
    · match n, hn with
      | 0, hn => omega
      | n + 1, hn =>
        have ih := eat_two n (mix s (l.take 64)) (l.drop 64) m (by rw [List.length_drop]; omega)
        have e1 : (l ++ m).take 64 = l.take 64 := by rw [List.take_append_of_le_length (by omega)]
        have e2 : (l ++ m).drop 64 = l.drop 64 ++ m := by rw [List.drop_append_of_le_length (by omega)]
        rw [eat_step s l (by omega), left_step l (by omega), eat_step s (l ++ m) (by simp; omega), left_step (l ++ m) (by simp; omega), e1, e2]
        exact ih
theorem eat_app (s : S8) (l m : List Nat) : eat (eat s l) (left l ++ m) = eat s (l ++ m) := (eat_two _ s l m (Nat.le_refl _)).1
theorem left_app (l m : List Nat) : left (left l ++ m) = left (l ++ m) := (eat_two _ init l m (Nat.le_refl _)).2
theorem init_ok : init.ok := by unfold S8.ok init; decide
end Sha
end Go.Proofs.YtmpgfpmkmgebdaaGreatDoor.F
