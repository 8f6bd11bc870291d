/- The document's Unhex: its contract. -/
import Derived.Test.YtjhjolnflkekoaaDoorSWsTo
import Derived.Test.YtjhjolnflkekoaaDoorSOwnG
import Derived.Test.YtjhjolnflkekoaaDoorSTell
namespace Go.Proofs.YtjhjolnflkekoaaDoor.S
open Go.RowKit
end Go.Proofs.YtjhjolnflkekoaaDoor.S
/- The document's Filled: its contract. -/
namespace Go.Proofs.YtjhjolnflkekoaaDoor.S
open Go.RowKit
theorem wpList_appG {t e : TypeId} {z : Value} {bytes : Nat} (E : Elem t e z bytes) {ops : Array Oper} {rest : List Oper} {o : Oper} {a : Act} {w : World} {Q : Exit → Act → World → Prop} (hgd : o.guard = none) (s x : Operand)
    (ho : o.op = .call { callee := .builtin .append, args := #[s, x], argTypes := #[t, t] }) (base : Nat) (v : Value) (xs : List Value) (hs : a.eval s = v) (hown : OwnsG e base v xs w)
    (b c : Nat) (news : Array Value) (hx : a.eval x = .slice (some ⟨b, 0, none⟩) news.size c) (hnews : Has w b news e) (h1 : ∀ u ∈ news.toList, u.oneCell' = true) (h63 : xs.length + news.size ≤ 1000000000000) (hbase : base ≤ w.heap.size)
    (h : ∀ v' w', OwnsG e base v' (xs ++ news.toList) w' → Below base w w' → wpList Tryd.prog ops Q rest (a.put o.dst v') w') : wpList Tryd.prog ops Q (o :: rest) a w := by
  refine wpList_plain hgd fun K hK => ?_
  obtain ⟨v', w', hr, h2, h3⟩ := run_append_ownG E w o.type base v xs hown b c news hnews h1 h63 hbase
  unfold Oper.wp execOp
  simp only [ho, resolve, invoke, builtin, Sem.run_bind, Sem.run_pure, Result.andThen_ok, List.map_toArray, List.map_cons, List.map_nil, hs, hx, hr]
  exact hK _ _ (h v' w' h2 h3)
theorem owns_bytes (w : World) (s : ByteArray) (hs : s.size ≤ 1000000000000) : OwnsG 5 w.heap.size (.slice (some ⟨w.heap.size, 0, none⟩) s.size (grownCap w s.size 0 5)) (U8s (bs s)).toList (Lib.bytesWorld w 5 s) ∧ Below w.heap.size w (Lib.bytesWorld w 5 s) := by
  have hl : (U8s (bs s)).toList.length = s.size := by rw [Array.length_toList, U8s_size, bs_length]
  have hge := grownCap_ge w s.size 0 5
  have hsz : (Lib.bytesCells w 5 s).size = grownCap w s.size 0 5 := by
    simp [Lib.bytesCells]; omega
  constructor
  · refine .inr ⟨w.heap.size, grownCap w s.size 0 5, _, _, by rw [hl], Nat.le_refl _, Lib.bytesWorld_at_new w 5 s, fun j hj => ?_, by rw [hl]; exact hge, grownCap_le_maxLen w s.size 0 5 (by unfold maxLen; omega), hsz, ?_⟩
    · rw [hsz]; simp; omega
    · rw [hl]
      simp only [Lib.bytesCells, Array.toList_append, Array.toList_map]
      rw [List.take_append_of_le_length (by simp), List.take_of_length_le (by simp)]
      simp [U8s, bs]
  · exact ⟨rfl, rfl, rfl, by rw [Lib.bytesWorld_size]; omega, fun k hk => Lib.bytesWorld_at_old w 5 s k hk⟩
theorem OwnsG.len {e : TypeId} {base : Nat} {v : Value} {xs : List Value} {w : World} (h : OwnsG e base v xs w) : ∃ sp cap, v = .slice sp xs.length cap := by
  rcases h with ⟨rfl, rfl⟩ | ⟨g, cap, cur, fz, rfl, _⟩
  · exact ⟨none, 0, rfl⟩
  · exact ⟨_, cap, rfl⟩
theorem U8s_snoc (l : List Nat) (a : Nat) (z : Int) (hz : z = (a : Int)) : (U8s l).toList ++ [Value.int .u8 z] = (U8s (l ++ [a])).toList := by subst hz; simp [U8s]
def lenOf : Value → Nat | .slice _ n _ => n | _ => 0
set_option maxRecDepth 20000 in
set_option maxHeartbeats 1000000 in
theorem filled_any (s : ByteArray) (hs : s.size ≤ 100000000000) (w : World) :
    Calls Tryd.prog 53 #[.string s] w fun e w' => ∃ v, e = .returned v ∧ OwnsG 5 w.heap.size v (U8s (bs s ++ Sha.ending s.size)).toList w' ∧ Below w.heap.size w w' := by
  have hcv := Lib.run_convert_string_bytes (P := Tryd.prog) w 9 51 5 s Tryd.underlying9 Tryd.underlying51 Tryd.underlying5
  obtain ⟨ho, hb⟩ := owns_bytes w s (by omega)
  have hll : Hid ((U8s (bs s)).toList.length + 1 ≤ 1000000000000) := by unfold Hid; rw [Array.length_toList, U8s_size, bs_length]; omega
  have Ho : Hid _ := ho
  have hno := Sha.noughts_lt s.size
  clear ho
  go_enter Tryd.func53, Tryd.ntmps53
  go_wp2_with (refine wpList_appG el5 rfl (.tmp 7) (.tmp 8) rfl w.heap.size _ (U8s (bs s)).toList rfl (by exact OwnsG.alloc Ho.out _) _ _ #[Value.int .u8 128] rfl (by exact Has.new _ _ _ _ rfl) (by simp [Value.oneCell']) hll.out (Nat.le_trans hb.size (by simp)) ?_; intro v1 w1 ho1 hb1)
  have e1 : (U8s (bs s)).toList ++ [Value.int .u8 128] = (U8s (bs s ++ [128])).toList := U8s_snoc _ 128 _ rfl
  have ho1' : OwnsG 5 w.heap.size v1 (U8s (bs s ++ [128])).toList w1 := by rw [← e1]; exact ho1
  have B1 := (belowAlloc hb _).trans hb1
  clear hb1 hb Ho hcv hll e1 ho1
  go_wp2_with fail
  go_loopw [3] (fun v wr => ∃ (k : Nat) (sp : Option Addr) (cap : Nat), k ≤ Sha.noughts s.size ∧ v = .slice sp (s.size + 1 + k) cap ∧ OwnsG 5 w.heap.size v (U8s (bs s ++ ([128] ++ List.replicate k 0))).toList wr ∧ Below w.heap.size w wr) (fun v _ => s.size + 66 - lenOf v)
  case atStart =>
    obtain ⟨sp, cap, hv⟩ := ho1'.len
    rw [show (U8s (bs s ++ [128])).toList.length = s.size + 1 by rw [Array.length_toList, U8s_size, List.length_append, bs_length]; rfl] at hv
    exact ⟨0, sp, cap, by omega, hv, ho1', B1⟩
  case round =>
    clear ho1' B1
    obtain ⟨k, sp, cap, hk, rfl, h1, b1⟩ := hrel
    have hll : Hid ((U8s (bs s ++ ([128] ++ List.replicate k 0))).toList.length + 1 ≤ 1000000000000) := by
      unfold Hid; rw [Array.length_toList, U8s_size, List.length_append, bs_length]; simp; omega
    by_cases hlt : k < Sha.noughts s.size
    · have hne := Sha.noughts_not s.size k hlt
      have hne' : (((s.size : Int) + 1 + (k : Int)) % 64 != 56) = true := by rw [bne_iff_ne]; omega
      go_wp2_with (refine wpList_appG el5 rfl (.tmp 14) (.tmp 15) rfl w.heap.size _ _ rfl (by exact OwnsG.alloc h1 _) _ _ #[Value.int .u8 0] rfl (by exact Has.new _ _ _ _ rfl) (by simp [Value.oneCell']) hll.out (Nat.le_trans b1.size (by simp)) ?_; intro v1 w1 ho1 hb1)
      have e2 : (U8s (bs s ++ ([128] ++ List.replicate k 0))).toList ++ [Value.int .u8 0] = (U8s (bs s ++ ([128] ++ List.replicate (k + 1) 0))).toList := by
        refine (U8s_snoc _ 0 0 rfl).trans ?_; rw [List.replicate_succ']; simp
      have ho2 : OwnsG 5 w.heap.size v1 (U8s (bs s ++ ([128] ++ List.replicate (k + 1) 0))).toList w1 := by rw [← e2]; exact ho1
      obtain ⟨sp1, cap1, hv⟩ := ho2.len
      rw [show (U8s (bs s ++ ([128] ++ List.replicate (k + 1) 0))).toList.length = s.size + 1 + (k + 1) by rw [Array.length_toList, U8s_size, List.length_append, bs_length]; simp; omega] at hv
      exact ⟨⟨k + 1, sp1, cap1, by omega, hv, ho2, (belowAlloc b1 _).trans hb1⟩, by rw [hv]; simp [lenOf]; omega⟩
    · obtain rfl : k = Sha.noughts s.size := by omega
      have hat := Sha.noughts_at s.size
      have hne' : (((s.size : Int) + 1 + (Sha.noughts s.size : Int)) % 64 != 56) = false := by rw [bne_eq_false_iff_eq]; omega
      clear hat hll
      have HE : Hid (Sha.ending s.size = [128] ++ List.replicate (Sha.noughts s.size) 0 ++ Sha.be8 (s.size * 8) 8) := rfl
      generalize Sha.noughts s.size = z at *
      go_wp2_with fail
      go_loopw [3, 5] (fun v vi wr => ∃ j : Nat, j ≤ 8 ∧ vi = .int .i64 (56 - 8 * (j : Int)) ∧ OwnsG 5 w.heap.size v (U8s (bs s ++ ([128] ++ List.replicate z 0 ++ Sha.be8 (s.size * 8) j))).toList wr ∧ Below w.heap.size w wr) (fun _ vi _ => (intOf vi + 8).toNat)
      case atStart => exact ⟨0, by omega, by simp, by simpa [Sha.be8] using h1, b1⟩
      case round =>
        clear h1 b1
        obtain ⟨j, hj, rfl, h1, b1⟩ := hrel
        by_cases hlt : j < 8
        · have d0 : decide ((0 : Int) ≤ 56 - 8 * (j : Int)) = true := by simp; omega
          have s0 : (0 : Int) ≤ 56 - 8 * (j : Int) := by omega
          have hll : Hid ((U8s (bs s ++ ([128] ++ List.replicate z 0 ++ Sha.be8 (s.size * 8) j))).toList.length + 1 ≤ 1000000000000) := by
            unfold Hid; rw [Array.length_toList, U8s_size, List.length_append, bs_length]; simp [Sha.be8]; omega
          have u64 : IntKind.u64.wrap (56 - 8 * (j : Int)) = 56 - 8 * (j : Int) := by rw [IntKind.wrap_u64]; omega
          go_wp2_with (refine wpList_appG el5 rfl (.tmp 25) (.tmp 31) rfl w.heap.size _ _ rfl (by exact OwnsG.alloc h1 _) _ _ #[_] rfl (by exact Has.new _ _ _ _ rfl) (by simp [Value.oneCell']) hll.out (Nat.le_trans b1.size (by simp)) ?_; intro v1 w1 ho1 hb1)
          have e3 : (U8s (bs s ++ ([128] ++ List.replicate z 0 ++ Sha.be8 (s.size * 8) j))).toList ++ [Value.int .u8 ((s.size : Int) * 8 / 2 ^ (56 - 8 * j) % 256)] = (U8s (bs s ++ ([128] ++ List.replicate z 0 ++ Sha.be8 (s.size * 8) (j + 1)))).toList := by
            refine (U8s_snoc _ (s.size * 8 / 2 ^ (56 - 8 * j) % 256) _ (by simp)).trans ?_
            rw [Sha.be8_succ]; simp
          have ho2 : OwnsG 5 w.heap.size v1 (U8s (bs s ++ ([128] ++ List.replicate z 0 ++ Sha.be8 (s.size * 8) (j + 1)))).toList w1 := by rw [← e3]; exact ho1
          exact ⟨⟨j + 1, by omega, by go_num, ho2, (belowAlloc b1 _).trans hb1⟩, by simp [intOf]; omega⟩
        · obtain rfl : j = 8 := by omega
          rw [← HE.out] at h1
          go_wp2_with fail
          go_ret
          exact ⟨_, rfl, h1, b1⟩
end Go.Proofs.YtjhjolnflkekoaaDoor.S
