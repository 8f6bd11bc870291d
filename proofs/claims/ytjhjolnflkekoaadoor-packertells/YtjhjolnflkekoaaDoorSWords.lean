/- The contract of words: a block's 64 numbers; of what was there nothing changes. -/
import Derived.Test.YtjhjolnflkekoaaDoorSTurn
import Derived.Deep.RegionHeld3
import Derived.Deep.QuietTactic
import Derived.BigQuiet
import Derived.Deep.Light
import Derived.KernelRfl
namespace Go.Proofs.YtjhjolnflkekoaaDoor.S
open Go.RowKit
theorem growN_lt (n : Nat) (l : List Nat) (h : ∀ x ∈ l, x < 4294967296) : ∀ x ∈ Sha.growN n l, x < 4294967296 := by
  induction n with
  | zero => exact h
  | succ n ih =>
    intro x hx
    simp only [Sha.growN, Sha.grow, List.mem_append, List.mem_singleton] at hx
    rcases hx with hx | rfl
    · exact ih x hx
    · exact Sha.nextW_lt _ _ _ _
theorem firstWs_lt (b : List Nat) (hbb : ∀ x ∈ b, x < 256) (n : Nat) : ∀ x ∈ Sha.firstWs b n, x < 4294967296 := by
  intro x hx
  simp only [Sha.firstWs, List.mem_map] at hx
  obtain ⟨i, _, rfl⟩ := hx
  exact Sha.word_lt b hbb i
theorem fill_cell (l : List Nat) (n i : Nat) (h : i < l.length) (hl : l.length ≤ n) : (U32s (fillUp l n))[i]? = some (.int .u32 ((l.getD i 0 : Nat) : Int)) := by
  rw [U32s_get _ _ (by rw [fillUp_length _ _ hl]; omega), fillUp_get _ _ _ h]
set_option maxHeartbeats 1000000 in
theorem words_any (b : List Nat) (hb : b.length = 64) (hbb : ∀ x ∈ b, x < 256) (w : World) :
    Calls Tryd.prog 55 #[.agg (U8s b)] w fun e w' => e = .returned (.agg (U32s (Sha.ws b))) ∧ Below w.heap.size w w' := by
  have hz : U32s (fillUp (Sha.firstWs b 0) 64) = #[Value.int .u32 0, .int .u32 0, .int .u32 0, .int .u32 0, .int .u32 0, .int .u32 0, .int .u32 0, .int .u32 0, .int .u32 0, .int .u32 0, .int .u32 0, .int .u32 0, .int .u32 0, .int .u32 0, .int .u32 0, .int .u32 0, .int .u32 0, .int .u32 0, .int .u32 0, .int .u32 0, .int .u32 0, .int .u32 0, .int .u32 0, .int .u32 0, .int .u32 0, .int .u32 0, .int .u32 0, .int .u32 0, .int .u32 0, .int .u32 0, .int .u32 0, .int .u32 0, .int .u32 0, .int .u32 0, .int .u32 0, .int .u32 0, .int .u32 0, .int .u32 0, .int .u32 0, .int .u32 0, .int .u32 0, .int .u32 0, .int .u32 0, .int .u32 0, .int .u32 0, .int .u32 0, .int .u32 0, .int .u32 0, .int .u32 0, .int .u32 0, .int .u32 0, .int .u32 0, .int .u32 0, .int .u32 0, .int .u32 0, .int .u32 0, .int .u32 0, .int .u32 0, .int .u32 0, .int .u32 0, .int .u32 0, .int .u32 0, .int .u32 0, .int .u32 0] := rfl
  have HZ : Hid _ := hz
  clear hz
  go_enter Tryd.func55, Tryd.ntmps55
  go_wp2
  go_loopw [10] (fun i wr => ∃ k : Nat, k ≤ 16 ∧ i = .int .i64 k ∧ Has wr w.heap.size (U8s b) 76 ∧ (∃ zs, zs.size = 64 ∧ Has wr (w.heap.size + 1) zs 93) ∧ Has wr (w.heap.size + 1 + 1) (U32s (fillUp (Sha.firstWs b k) 64)) 93 ∧ Below w.heap.size w wr) (fun i _ => 16 - (intOf i).toNat)
  case atStart =>
    refine ⟨0, by omega, rfl, ((Has.new _ _ _ _ rfl).alloc _).alloc _, ⟨_, ?_, (Has.new _ _ _ _ (by simp)).alloc _⟩, ?_, ?_⟩
    · rfl
    · rw [HZ.out]; exact Has.new _ _ _ _ (by simp)
    · exact (((Below.refl _ _).alloc (Nat.le_refl _) _).alloc (by simp) _).alloc (by simp; omega) _
  case round =>
    obtain ⟨k, hk, rfl, h1, ⟨zs, hzs, h2⟩, h3, hbl⟩ := hrel
    have hN := h1.lt
    clear HZ
    by_cases hlt : k < 16
    · have g0 := getD_lt b 256 (by decide) hbb (4 * k)
      have g1 := getD_lt b 256 (by decide) hbb (4 * k + 1)
      have g2 := getD_lt b 256 (by decide) hbb (4 * k + 2)
      have g3 := getD_lt b 256 (by decide) hbb (4 * k + 3)
      have HV := or4 _ _ _ _ g0 g1 g2 g3
      have hv : Hid _ := HV
      have c0n := (h1.cell (4 * k)).trans (U8s_get b _ (by omega))
      have c0 : wr.cell? ⟨w.heap.size, (4 * (k : Int)).toNat, none⟩ = some (.int .u8 ((b.getD (4 * k) 0 : Nat) : Int)) := by
        rw [show (4 * (k : Int)).toNat = 4 * k by omega]; exact c0n
      have c1 : wr.cell? ⟨w.heap.size, (4 * (k : Int) + 1).toNat, none⟩ = some (.int .u8 ((b.getD (4 * k + 1) 0 : Nat) : Int)) := by
        rw [show (4 * (k : Int) + 1).toNat = 4 * k + 1 by omega]; exact (h1.cell (4 * k + 1)).trans (U8s_get b _ (by omega))
      have c2 : wr.cell? ⟨w.heap.size, (4 * (k : Int) + 2).toNat, none⟩ = some (.int .u8 ((b.getD (4 * k + 2) 0 : Nat) : Int)) := by
        rw [show (4 * (k : Int) + 2).toNat = 4 * k + 2 by omega]; exact (h1.cell (4 * k + 2)).trans (U8s_get b _ (by omega))
      have c3 : wr.cell? ⟨w.heap.size, (4 * (k : Int) + 3).toNat, none⟩ = some (.int .u8 ((b.getD (4 * k + 3) 0 : Nat) : Int)) := by
        rw [show (4 * (k : Int) + 3).toNat = 4 * k + 3 by omega]; exact (h1.cell (4 * k + 3)).trans (U8s_get b _ (by omega))
      have c4 := (h3.cell k).trans (U32s_get _ k (by rw [fillUp_length _ _ (by rw [Sha.firstWs_length]; omega)]; omega))
      have f4 := h3.frozen k
      have b0 : (0 : Int) ≤ 4 * (k : Int) := by omega
      have b1 : 4 * (k : Int) < 64 := by omega
      have b2 : 4 * (k : Int) + 1 < 64 := by omega
      have b3 : 4 * (k : Int) + 2 < 64 := by omega
      have b4 : 4 * (k : Int) + 3 < 64 := by omega
      have b5 : (0 : Int) ≤ 4 * (k : Int) + 1 := by omega
      have b6 : (0 : Int) ≤ 4 * (k : Int) + 2 := by omega
      have b7 : (0 : Int) ≤ 4 * (k : Int) + 3 := by omega
      have b8 : (k : Int) < 64 := by omega
      have e0 : IntKind.i64.wrap (4 * (k : Int)) = 4 * (k : Int) := wrap_i64_of (by omega) (by omega)
      have e1 : IntKind.i64.wrap (4 * (k : Int) + 1) = 4 * (k : Int) + 1 := wrap_i64_of (by omega) (by omega)
      have e2 : IntKind.i64.wrap (4 * (k : Int) + 2) = 4 * (k : Int) + 2 := wrap_i64_of (by omega) (by omega)
      have e3 : IntKind.i64.wrap (4 * (k : Int) + 3) = 4 * (k : Int) + 3 := wrap_i64_of (by omega) (by omega)
      have hne : Hid (w.heap.size + 1 + 1 ≠ w.heap.size) := by unfold Hid; omega
      clear HV g0 g1 g2 g3
      go_wp2
      go_region_held3 (fun w' => w'.cell? ⟨w.heap.size, (4 * (k : Int)).toNat, none⟩ = some (.int .u8 ((b.getD (4 * k) 0 : Nat) : Int)) ∧ w'.cell? ⟨w.heap.size, (4 * (k : Int) + 1).toNat, none⟩ = some (.int .u8 ((b.getD (4 * k + 1) 0 : Nat) : Int)) ∧ w'.cell? ⟨w.heap.size, (4 * (k : Int) + 2).toNat, none⟩ = some (.int .u8 ((b.getD (4 * k + 2) 0 : Nat) : Int)) ∧ w'.cell? ⟨w.heap.size, (4 * (k : Int) + 3).toNat, none⟩ = some (.int .u8 ((b.getD (4 * k + 3) 0 : Nat) : Int))) (first | exact ⟨c0, c1, c2, c3⟩ | exact ⟨cell_set_drew c0 hne.out, cell_set_drew c1 hne.out, cell_set_drew c2 hne.out, cell_set_drew c3 hne.out⟩) (fail)
      go_wp2
      go_light
      refine ⟨⟨k + 1, by omega, by go_num, (h1.other _ _ (by simp; omega)).drew, ⟨zs, hzs, (h2.other _ _ (by simp)).drew⟩, ?_, (hbl.setCell (by simp; omega) _).drew⟩, by simp [intOf]; omega⟩
      have h4 := h3.set k (.int .u32 (Sha.word b k : Nat))
      rw [fillUp_snoc _ _ _ _ (by rw [Sha.firstWs_length]) (by rw [Sha.firstWs_length]; omega), ← firstWs_succ] at h4
      unfold Hid at hv
      simp only [List.getD_eq_getElem?_getD, IntKind.wrap_u32'] at hv
      rw [hv]
      have h5 : Has _ _ _ _ := h4.drew
      simpa [Sha.word, List.getD_eq_getElem?_getD] using h5
    · obtain rfl : k = 16 := by omega
      go_wp2
      go_loopw [5] (fun i wr => ∃ n : Nat, n ≤ 48 ∧ i = .int .i64 ((n : Int) + 16) ∧ (∃ zs, zs.size = 64 ∧ Has wr (w.heap.size + 1) zs 93) ∧ Has wr (w.heap.size + 1 + 1) (U32s (fillUp (Sha.growN n (Sha.firstWs b 16)) 64)) 93 ∧ Below w.heap.size w wr) (fun i _ => 64 - (intOf i).toNat)
      case atStart => exact ⟨0, by omega, rfl, ⟨zs, hzs, h2⟩, h3, hbl⟩
      case round =>
        clear h1 h2 h3 hbl hlt hk
        obtain ⟨n, hn, rfl, ⟨zs, hzs, h2⟩, h3, hbl⟩ := hrel
        by_cases hlt : n < 48
        · have hlen : Hid ((Sha.growN n (Sha.firstWs b 16)).length = n + 16) := by
            unfold Hid; rw [Sha.growN_length, Sha.firstWs_length]; omega
          have hall := growN_lt n _ (firstWs_lt b hbb 16)
          have hsuc : Hid (Sha.growN (n + 1) (Sha.firstWs b 16) = Sha.grow (Sha.growN n (Sha.firstWs b 16))) := rfl
          generalize Sha.growN n (Sha.firstWs b 16) = l at h3 hlen hall hsuc
          have hp := getD_lt l _ (by decide) hall (n + 1)
          have hq := getD_lt l _ (by decide) hall (n + 14)
          have hr := getD_lt l _ (by decide) hall n
          have hs := getD_lt l _ (by decide) hall (n + 9)
          have c1 := (h3.cell (n + 1)).trans (fill_cell l 64 (n + 1) (by rw [hlen.out]; omega) (by rw [hlen.out]; omega))
          have c2 := (h3.cell (n + 14)).trans (fill_cell l 64 (n + 14) (by rw [hlen.out]; omega) (by rw [hlen.out]; omega))
          have c3 := (h3.cell n).trans (fill_cell l 64 n (by rw [hlen.out]; omega) (by rw [hlen.out]; omega))
          have c4 := (h3.cell (n + 9)).trans (fill_cell l 64 (n + 9) (by rw [hlen.out]; omega) (by rw [hlen.out]; omega))
          have hgr : Hid (Sha.grow l = l ++ [Sha.nextW (l.getD n 0) (l.getD (n + 9) 0) (l.getD (n + 1) 0) (l.getD (n + 14) 0)]) := by
            unfold Hid Sha.grow; rw [hlen.out]
            rw [show n + 16 - 16 = n by omega, show n + 16 - 7 = n + 9 by omega, show n + 16 - 15 = n + 1 by omega, show n + 16 - 2 = n + 14 by omega]
          generalize l.getD n 0 = r at hr c3 hgr
          generalize l.getD (n + 1) 0 = p at hp c1 hgr
          generalize l.getD (n + 14) 0 = q at hq c2 hgr
          generalize l.getD (n + 9) 0 = s at hs c4 hgr
          have c5 := (h3.cell (n + 16)).trans (U32s_get _ (n + 16) (by rw [fillUp_length _ _ (by rw [hlen.out]; omega)]; omega))
          have f5 := h3.frozen (n + 16)
          clear hall
          have t1 : ((n : Int) + 16 - 15) = (n : Int) + 1 := by omega
          have t2 : ((n : Int) + 16 - 2) = (n : Int) + 14 := by omega
          have t3 : ((n : Int) + 16 - 16) = (n : Int) := by omega
          have t4 : ((n : Int) + 16 - 7) = (n : Int) + 9 := by omega
          have u1 : ((n : Int) + 1).toNat = n + 1 := by omega
          have u2 : ((n : Int) + 14).toNat = n + 14 := by omega
          have u4 : ((n : Int) + 9).toNat = n + 9 := by omega
          have u5 : ((n : Int) + 16).toNat = n + 16 := by omega
          have v0 : (0 : Int) ≤ (n : Int) := by omega
          have v1 : (n : Int) + 1 < 64 := by omega
          have v2 : (n : Int) + 14 < 64 := by omega
          have v3 : (n : Int) < 64 := by omega
          have v4 : (n : Int) + 9 < 64 := by omega
          have v5 : (n : Int) + 16 < 64 := by omega
          have w1 : (0 : Int) ≤ (n : Int) + 1 := by omega
          have w2 : (0 : Int) ≤ (n : Int) + 14 := by omega
          have w4 : (0 : Int) ≤ (n : Int) + 9 := by omega
          have w5 : (0 : Int) ≤ (n : Int) + 16 := by omega
          go_wp2
          go_quiet (fail)
          go_wp2_with (go_at_call 56; refine (turn_lit _ _ _ (by assumption) (by decide) (by decide)).mono ?_; rintro e w' ⟨rfl, rfl⟩)
          simp only [sig0_close p hp, sig1_close q hq]
          have hne1 : Hid (n + 16 ≠ n) := by unfold Hid; omega
          have hne2 : Hid (n + 16 ≠ n + 9) := by unfold Hid; omega
          have e3 : IntKind.i64.wrap (n : Int) = (n : Int) := wrap_i64_of (by omega) (by omega)
          have e4 : IntKind.i64.wrap ((n : Int) + 9) = (n : Int) + 9 := wrap_i64_of (by omega) (by omega)
          go_region_held3 (fun w' => w'.cell? ⟨w.heap.size + 1 + 1, n, none⟩ = some (.int .u32 (r : Int)) ∧ w'.cell? ⟨w.heap.size + 1 + 1, n + 9, none⟩ = some (.int .u32 (s : Int))) (first | exact ⟨c3, c4⟩ | exact ⟨cell_set_off c3 hne1.out, cell_set_off c4 hne2.out⟩ | go_keep) (fail)
          go_wp2
          go_roundw
          case rel =>
            go_light
            have h4 := (h3.drewN (nq + 1)).set (n + 16) (.int .u32 (Sha.nextW r s p q : Nat))
            rw [fillUp_snoc _ _ _ _ hlen.out.symm (by rw [hlen.out]; omega), ← hgr.out, ← hsuc.out, ← next_close] at h4
            (repeat apply Exists.intro)
            exact ⟨⟨n + 1, by omega, by go_num, ⟨zs, hzs, (h2.drewN _).other _ _ (by simp)⟩, h4, (below_drewN hbl _).setCell (by simp; omega) _⟩, rfl⟩
          case measure => simp [intOf]; omega
        · obtain rfl : n = 48 := by omega
          rw [fillUp_full _ _ (by rw [Sha.growN_length, Sha.firstWs_length])] at h3
          have hws : U32s (Sha.growN 48 (Sha.firstWs b 16)) = U32s (Sha.ws b) := rfl
          rw [hws] at h3
          have hl64 : (U32s (Sha.ws b)).size = 64 := by rw [U32s_size, Sha.ws_length]
          have hi : Hid ((Tryd.prog.info? 93).map (·.size) = some (U32s (Sha.ws b)).toList.length) := by
            unfold Hid; rw [show (U32s (Sha.ws b)).toList.length = 64 by rw [Array.length_toList, hl64]]; kernel_rfl
          have hi2 : Hid ((Tryd.prog.info? 93).map (·.size) = some (U32s (Sha.ws b)).toList.toArray.size) := by
            unfold Hid; rw [show (U32s (Sha.ws b)).toList.toArray.size = 64 by simp [hl64]]; kernel_rfl
          have hone : Hid ((U32s (Sha.ws b)).toList.toArray.all (·.oneCell') = true) := by
            unfold Hid; simp [U32s, Value.oneCell']
          have hr3 := h3.range
          have ht2 := h2.there 0 64 (by omega)
          have Hr3 : Hid _ := hr3
          have Ht2 : Hid (wr.there (w.heap.size + 1) 0 (U32s (Sha.ws b)).toList.toArray.size) := by
            unfold Hid; rw [show (U32s (Sha.ws b)).toList.toArray.size = 64 by simp [hl64]]; exact ht2
          clear hr3 ht2 hl64 hws
          go_wp2_with (first
            | (refine wpList_load_mid rfl 93 _ rfl (w.heap.size + 1 + 1) 0 rfl _ _ Hr3.out Tryd.underlying93 rfl hi.out ?_)
            | (refine wpList_store_mid rfl 93 _ _ rfl (w.heap.size + 1) 0 _ rfl rfl Ht2.out hi2.out hone.out ?_))
          go_light
          refine bodyPost_ret (v := .agg (U32s (Sha.ws b)).toList.toArray) ?_ rfl ⟨by simp, ?_⟩
          · rw [results_one_cell Tryd.results55]
            have hr2 := World.rangeAt_setCells_same wr (w.heap.size + 1) 0 (U32s (Sha.ws b)).toList (by simpa using Ht2.out)
            exact ret_row (by simp [Act.put]) hr2 Tryd.underlying93 rfl hi.out
          · exact below_setCells (by omega) _ _ hbl
end Go.Proofs.YtjhjolnflkekoaaDoor.S
