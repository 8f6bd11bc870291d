/- The document's Unhex: its contract. -/
import Derived.Test.YtmpgfpmkmgebdaaGreatDoorFChange
import Derived.Test.YtmpgfpmkmgebdaaGreatDoorFOwnG
import Derived.Test.YtmpgfpmkmgebdaaGreatDoorFHash
import Derived.Test.YtmpgfpmkmgebdaaGreatDoorFSWrit
import Derived.Lib.IndexLaws
import Derived.Test.YtmpgfpmkmgebdaaGreatDoorFRootsT
import Derived.Lib.ConvBytes
namespace Go.Proofs.YtmpgfpmkmgebdaaGreatDoor.F
open Go.RowKit
end Go.Proofs.YtmpgfpmkmgebdaaGreatDoor.F
/- The document's Filled: its contract. -/
namespace Go.Proofs.YtmpgfpmkmgebdaaGreatDoor.F
open Go.RowKit
theorem wpList_appG {t e : TypeId} {z : Value} {bytes : Nat} (E : Elem t e z bytes) {ops : Array Oper} {rest : List Oper} {o : Oper} {a : Act} {w : World} {Q : Exit → Act → World → Prop} (hgd : o.guard = none) (s x : Operand)
    (ho : o.op = .call { callee := .builtin .append, args := #[s, x], argTypes := #[t, t] }) (base : Nat) (v : Value) (xs : List Value) (hs : a.eval s = v) (hown : OwnsG e base v xs w)
    (b c : Nat) (news : Array Value) (hx : a.eval x = .slice (some ⟨b, 0, none⟩) news.size c) (hnews : Has w b news e) (h1 : ∀ u ∈ news.toList, u.oneCell' = true) (h63 : xs.length + news.size ≤ 1000000000000) (hbase : base ≤ w.heap.size)
    (h : ∀ v' w', OwnsG e base v' (xs ++ news.toList) w' → Below base w w' → wpList Tryz.prog ops Q rest (a.put o.dst v') w') : wpList Tryz.prog ops Q (o :: rest) a w := by
  refine wpList_plain hgd fun K hK => ?_
  obtain ⟨v', w', hr, h2, h3⟩ := run_append_ownG E w o.type base v xs hown b c news hnews h1 h63 hbase
  unfold Oper.wp execOp
  simp only [ho, resolve, invoke, builtin, Sem.run_bind, Sem.run_pure, Result.andThen_ok, List.map_toArray, List.map_cons, List.map_nil, hs, hx, hr]
  exact hK _ _ (h v' w' h2 h3)
theorem owns_bytes (w : World) (s : ByteArray) (hs : s.size ≤ 1000000000000) : OwnsG 5 w.heap.size (.slice (some ⟨w.heap.size, 0, none⟩) s.size (grownCap w s.size 0 5)) (U8s (bs s)).toList (Lib.bytesWorld w 5 s) ∧ Below w.heap.size w (Lib.bytesWorld w 5 s) := by
  have hl : (U8s (bs s)).toList.length = s.size := by rw [Array.length_toList, U8s_size, bs_length]
  have hge := grownCap_ge w s.size 0 5
  have hsz : (Lib.bytesCells w 5 s).size = grownCap w s.size 0 5 := by
    simp [Lib.bytesCells]; omega
  constructor
  · refine .inr ⟨w.heap.size, grownCap w s.size 0 5, _, _, by rw [hl], Nat.le_refl _, Lib.bytesWorld_at_new w 5 s, fun j hj => ?_, by rw [hl]; exact hge, grownCap_le_maxLen w s.size 0 5 (by unfold maxLen; omega), hsz, ?_⟩
    · rw [hsz]; simp; omega
    · rw [hl]
      simp only [Lib.bytesCells, Array.toList_append, Array.toList_map]
      rw [List.take_append_of_le_length (by simp), List.take_of_length_le (by simp)]
      simp [U8s, bs]
  · exact ⟨rfl, rfl, rfl, by rw [Lib.bytesWorld_size]; omega, fun k hk => Lib.bytesWorld_at_old w 5 s k hk⟩
theorem OwnsG.len {e : TypeId} {base : Nat} {v : Value} {xs : List Value} {w : World} (h : OwnsG e base v xs w) : ∃ sp cap, v = .slice sp xs.length cap := by
  rcases h with ⟨rfl, rfl⟩ | ⟨g, cap, cur, fz, rfl, _⟩
  · exact ⟨none, 0, rfl⟩
  · exact ⟨_, cap, rfl⟩
theorem U8s_snoc (l : List Nat) (a : Nat) (z : Int) (hz : z = (a : Int)) : (U8s l).toList ++ [Value.int .u8 z] = (U8s (l ++ [a])).toList := by subst hz; simp [U8s]
def lenOf : Value → Nat | .slice _ n _ => n | _ => 0
set_option maxRecDepth 20000 in
set_option maxHeartbeats 1000000 in
theorem filled_any (s : ByteArray) (hs : s.size ≤ 100000000000) (w : World) :
    Calls Tryz.prog 140 #[.string s] w fun e w' => ∃ v, e = .returned v ∧ OwnsG 5 w.heap.size v (U8s (bs s ++ Sha.ending s.size)).toList w' ∧ Below w.heap.size w w' := by
  have hcv := Lib.run_convert_string_bytes (P := Tryz.prog) w 9 141 5 s Tryz.underlying9 Tryz.underlying141 Tryz.underlying5
  obtain ⟨ho, hb⟩ := owns_bytes w s (by omega)
  have hll : Hid ((U8s (bs s)).toList.length + 1 ≤ 1000000000000) := by unfold Hid; rw [Array.length_toList, U8s_size, bs_length]; omega
  have Ho : Hid _ := ho
  have hno := Sha.noughts_lt s.size
  clear ho
  go_enter Tryz.func140, Tryz.ntmps140
  go_wp2_with (refine wpList_appG el5 rfl (.tmp 7) (.tmp 8) rfl w.heap.size _ (U8s (bs s)).toList rfl (by exact OwnsG.alloc Ho.out _) _ _ #[Value.int .u8 128] rfl (by exact Has.new _ _ _ _ rfl) (by simp [Value.oneCell']) hll.out (Nat.le_trans hb.size (by simp)) ?_; intro v1 w1 ho1 hb1)
  have e1 : (U8s (bs s)).toList ++ [Value.int .u8 128] = (U8s (bs s ++ [128])).toList := U8s_snoc _ 128 _ rfl
  have ho1' : OwnsG 5 w.heap.size v1 (U8s (bs s ++ [128])).toList w1 := by rw [← e1]; exact ho1
  have B1 := (belowAlloc hb _).trans hb1
  clear hb1 hb Ho hcv hll e1 ho1
  go_wp2_with fail
  go_loopw [3] (fun v wr => ∃ (k : Nat) (sp : Option Addr) (cap : Nat), k ≤ Sha.noughts s.size ∧ v = .slice sp (s.size + 1 + k) cap ∧ OwnsG 5 w.heap.size v (U8s (bs s ++ ([128] ++ List.replicate k 0))).toList wr ∧ Below w.heap.size w wr) (fun v _ => s.size + 66 - lenOf v)
  case atStart =>
    obtain ⟨sp, cap, hv⟩ := ho1'.len
    rw [show (U8s (bs s ++ [128])).toList.length = s.size + 1 by rw [Array.length_toList, U8s_size, List.length_append, bs_length]; rfl] at hv
    exact ⟨0, sp, cap, by omega, hv, ho1', B1⟩
  case round =>
    clear ho1' B1
    obtain ⟨k, sp, cap, hk, rfl, h1, b1⟩ := hrel
    have hll : Hid ((U8s (bs s ++ ([128] ++ List.replicate k 0))).toList.length + 1 ≤ 1000000000000) := by
      unfold Hid; rw [Array.length_toList, U8s_size, List.length_append, bs_length]; simp; omega
    by_cases hlt : k < Sha.noughts s.size
    · have hne := Sha.noughts_not s.size k hlt
      have hne' : (((s.size : Int) + 1 + (k : Int)) % 64 != 56) = true := by rw [bne_iff_ne]; omega
      go_wp2_with (refine wpList_appG el5 rfl (.tmp 14) (.tmp 15) rfl w.heap.size _ _ rfl (by exact OwnsG.alloc h1 _) _ _ #[Value.int .u8 0] rfl (by exact Has.new _ _ _ _ rfl) (by simp [Value.oneCell']) hll.out (Nat.le_trans b1.size (by simp)) ?_; intro v1 w1 ho1 hb1)
      have e2 : (U8s (bs s ++ ([128] ++ List.replicate k 0))).toList ++ [Value.int .u8 0] = (U8s (bs s ++ ([128] ++ List.replicate (k + 1) 0))).toList := by
        refine (U8s_snoc _ 0 0 rfl).trans ?_; rw [List.replicate_succ']; simp
      have ho2 : OwnsG 5 w.heap.size v1 (U8s (bs s ++ ([128] ++ List.replicate (k + 1) 0))).toList w1 := by rw [← e2]; exact ho1
      obtain ⟨sp1, cap1, hv⟩ := ho2.len
      rw [show (U8s (bs s ++ ([128] ++ List.replicate (k + 1) 0))).toList.length = s.size + 1 + (k + 1) by rw [Array.length_toList, U8s_size, List.length_append, bs_length]; simp; omega] at hv
      exact ⟨⟨k + 1, sp1, cap1, by omega, hv, ho2, (belowAlloc b1 _).trans hb1⟩, by rw [hv]; simp [lenOf]; omega⟩
    · obtain rfl : k = Sha.noughts s.size := by omega
      have hat := Sha.noughts_at s.size
      have hne' : (((s.size : Int) + 1 + (Sha.noughts s.size : Int)) % 64 != 56) = false := by rw [bne_eq_false_iff_eq]; omega
      clear hat hll
      have HE : Hid (Sha.ending s.size = [128] ++ List.replicate (Sha.noughts s.size) 0 ++ Sha.be8 (s.size * 8) 8) := rfl
      generalize Sha.noughts s.size = z at *
      go_wp2_with fail
      go_loopw [3, 5] (fun v vi wr => ∃ j : Nat, j ≤ 8 ∧ vi = .int .i64 (56 - 8 * (j : Int)) ∧ OwnsG 5 w.heap.size v (U8s (bs s ++ ([128] ++ List.replicate z 0 ++ Sha.be8 (s.size * 8) j))).toList wr ∧ Below w.heap.size w wr) (fun _ vi _ => (intOf vi + 8).toNat)
      case atStart => exact ⟨0, by omega, by simp, by simpa [Sha.be8] using h1, b1⟩
      case round =>
        clear h1 b1
        obtain ⟨j, hj, rfl, h1, b1⟩ := hrel
        by_cases hlt : j < 8
        · have d0 : decide ((0 : Int) ≤ 56 - 8 * (j : Int)) = true := by simp; omega
          have s0 : (0 : Int) ≤ 56 - 8 * (j : Int) := by omega
          have hll : Hid ((U8s (bs s ++ ([128] ++ List.replicate z 0 ++ Sha.be8 (s.size * 8) j))).toList.length + 1 ≤ 1000000000000) := by
            unfold Hid; rw [Array.length_toList, U8s_size, List.length_append, bs_length]; simp [Sha.be8]; omega
          have u64 : IntKind.u64.wrap (56 - 8 * (j : Int)) = 56 - 8 * (j : Int) := by rw [IntKind.wrap_u64]; omega
          go_wp2_with (refine wpList_appG el5 rfl (.tmp 25) (.tmp 31) rfl w.heap.size _ _ rfl (by exact OwnsG.alloc h1 _) _ _ #[_] rfl (by exact Has.new _ _ _ _ rfl) (by simp [Value.oneCell']) hll.out (Nat.le_trans b1.size (by simp)) ?_; intro v1 w1 ho1 hb1)
          have e3 : (U8s (bs s ++ ([128] ++ List.replicate z 0 ++ Sha.be8 (s.size * 8) j))).toList ++ [Value.int .u8 ((s.size : Int) * 8 / 2 ^ (56 - 8 * j) % 256)] = (U8s (bs s ++ ([128] ++ List.replicate z 0 ++ Sha.be8 (s.size * 8) (j + 1)))).toList := by
            refine (U8s_snoc _ (s.size * 8 / 2 ^ (56 - 8 * j) % 256) _ (by simp)).trans ?_
            rw [Sha.be8_succ]; simp
          have ho2 : OwnsG 5 w.heap.size v1 (U8s (bs s ++ ([128] ++ List.replicate z 0 ++ Sha.be8 (s.size * 8) (j + 1)))).toList w1 := by rw [← e3]; exact ho1
          exact ⟨⟨j + 1, by omega, by go_num, ho2, (belowAlloc b1 _).trans hb1⟩, by simp [intOf]; omega⟩
        · obtain rfl : j = 8 := by omega
          rw [← HE.out] at h1
          go_wp2_with fail
          go_ret
          exact ⟨_, rfl, h1, b1⟩
end Go.Proofs.YtmpgfpmkmgebdaaGreatDoor.F
/- The contract of the document's Sums: of each text its digest. -/
namespace Go.Proofs.YtmpgfpmkmgebdaaGreatDoor.F
open Go.RowKit
namespace Sha
theorem ending_length (n : Nat) : (n + (ending n).length) % 64 = 0 := by
  have h := noughts_at n
  have : (ending n).length = 1 + noughts n + 8 := by simp [ending, be8]; omega
  omega
theorem eat_block (s : S8) (L : List Nat) (j : Nat) (h : 64 * (j + 1) ≤ L.length) : eat s (L.take (64 * (j + 1))) = mix (eat s (L.take (64 * j))) ((L.drop (64 * j)).take 64) := by
  have hl : (L.take (64 * j)).length = 64 * j := by rw [List.length_take]; omega
  have hb : ((L.drop (64 * j)).take 64).length = 64 := by rw [List.length_take, List.length_drop]; omega
  have e1 : L.take (64 * (j + 1)) = L.take (64 * j) ++ (L.drop (64 * j)).take 64 := by
    rw [show 64 * (j + 1) = 64 * j + 64 by omega, List.take_add]
  have e2 : left (L.take (64 * j)) = [] := by
    apply List.eq_nil_of_length_eq_zero; rw [left_length, hl]; omega
  rw [e1, ← eat_app, e2, List.nil_append]
  generalize (L.drop (64 * j)).take 64 = B at hb
  have e3 : B.take 64 = B := List.take_of_length_le (by omega)
  rw [eat_step _ B (by omega), eat_short _ (B.drop 64) (by rw [List.length_drop]; omega), e3]
end Sha
theorem conv_ownG {base : Nat} {v : Value} {l : List Nat} {w : World} (h : OwnsG 5 base v (U8s l).toList w) : (convert 141 9 v).run Tryz.prog w = .ok (.string (ofBs l)) w := by
  rcases h with ⟨rfl, h0⟩ | ⟨g, cap, cur, fz, rfl, hh⟩
  · have hl : l = [] := by
      have := congrArg List.length h0
      rw [Array.length_toList, U8s_size] at this
      exact List.eq_nil_of_length_eq_zero this
    subst hl
    exact conv_nil w
  · have hc : OwnsG 5 base (.slice (some ⟨g, 0, none⟩) (U8s l).toList.length cap) (U8s l).toList w := .inr ⟨g, cap, cur, fz, rfl, hh⟩
    have h2 := run_loadCells_list (P := Tryz.prog) w ⟨g, 0, none⟩ (U8s l).toList (fun j v hv => by
      have hj : j < (U8s l).toList.length := (List.getElem?_eq_some_iff.1 hv).1
      rw [Addr.add_mid, Nat.zero_add, hc.cell j hj]; exact hv)
    have hl : (loadCells ⟨g, 0, none⟩ (U8s l).toList.length).run Tryz.prog w = .ok ((l.map fun x : Nat => (x : Int)).map (Value.int .u8)).toArray w := by
      rw [h2]; simp [U8s]
    rw [run_convert_bytes_string w 141 9 5 _ _ _ Tryz.underlying141 Tryz.underlying5 Tryz.underlying9, run_bytesToString w _ _ _ _ hl, fold_push]
    simp [ofBs]
theorem OwnsG.low {e : TypeId} {base base' : Nat} {v : Value} {xs : List Value} {w : World} (h : OwnsG e base v xs w) (hb : base' ≤ base) : OwnsG e base' v xs w := by
  rcases h with h | ⟨g, cap, cur, fz, hv, hg, hr⟩
  · exact .inl h
  · exact .inr ⟨g, cap, cur, fz, hv, Nat.le_trans hb hg, hr⟩
theorem quo4 (x : Nat) (hx : x < 4294967296) : #[Value.int .u8 (IntKind.u8.wrap (IntKind.u32.wrap ((x : Int) / 16777216))), .int .u8 (IntKind.u8.wrap ((IntKind.u32.wrap ((x : Int) / 65536)).tmod 256)), .int .u8 (IntKind.u8.wrap ((IntKind.u32.wrap ((x : Int) / 256)).tmod 256)), .int .u8 (IntKind.u8.wrap ((x : Int).tmod 256))] = U8s (Sha.be4 x 4) := by
  have h0 : IntKind.u8.wrap (IntKind.u32.wrap ((x : Int) / 16777216)) = ((x / 2 ^ 24 % 256 : Nat) : Int) := by
    rw [IntKind.wrap_u32', IntKind.wrap_u8']; omega
  have h1 : IntKind.u8.wrap ((IntKind.u32.wrap ((x : Int) / 65536)).tmod 256) = ((x / 2 ^ 16 % 256 : Nat) : Int) := by
    rw [IntKind.wrap_u32', Int.tmod_eq_emod_of_nonneg (by omega), IntKind.wrap_u8']; omega
  have h2 : IntKind.u8.wrap ((IntKind.u32.wrap ((x : Int) / 256)).tmod 256) = ((x / 2 ^ 8 % 256 : Nat) : Int) := by
    rw [IntKind.wrap_u32', Int.tmod_eq_emod_of_nonneg (by omega), IntKind.wrap_u8']; omega
  have h3 : IntKind.u8.wrap ((x : Int).tmod 256) = ((x / 2 ^ 0 % 256 : Nat) : Int) := by
    rw [Int.tmod_eq_emod_of_nonneg (by omega), IntKind.wrap_u8']; omega
  rw [h0, h1, h2, h3]
  rfl
theorem S8_take (t : Sha.S8) (i : Nat) (h : i < 8) : (S8.L t).take i ++ [(S8.L t).getD i 0] = (S8.L t).take (i + 1) := take_app _ _ h
theorem S8_lt (t : Sha.S8) (ht : t.ok) : ∀ x ∈ S8.L t, x < 4294967296 := by
  obtain ⟨a, b, c, d, e, f, g, h⟩ := ht
  intro x hx
  simp only [S8.L, List.mem_cons, List.not_mem_nil, or_false] at hx
  rcases hx with rfl | rfl | rfl | rfl | rfl | rfl | rfl | rfl <;> assumption
def digests (ls : List ByteArray) : List Value := ls.map fun s => .string (ofBs (Sha.digest (bs s)))
theorem S8v_init : U32s Ref.initL = S8v Sha.init := rfl
set_option maxRecDepth 20000 in
set_option maxHeartbeats 2000000 in
theorem sums_any (ls : List ByteArray) (hls : ls.length ≤ 1000000000) (hsz : ∀ s ∈ ls, s.size ≤ 100000000000) (v : Value) (w : World) (rv : Reads w v (ls.map .string)) :
    Calls Tryz.prog 122 #[v] w fun e w' => ∃ v', e = .returned v' ∧ OwnsG 9 w.heap.size v' (digests ls) w' ∧ Below w.heap.size w w' := by
  obtain ⟨gl, ol, cl, rfl, _, hgl, kl⟩ := rv
  rw [List.length_map] at kl ⊢
  have KL : Hid _ := kl
  clear kl
  go_enter Tryz.func122, Tryz.ntmps122
  go_wp2_with fail
  refine (roots_any w).mono ?_
  rintro e w1 ⟨v2, v3, rfl, r2, r3, b1⟩
  rw [S8v_init] at r2
  go_wp2_with fail
  go_loopw [5, 6] (fun vo vk wr => ∃ k : Nat, k ≤ ls.length ∧ vk = .int .i64 (k : Int) ∧ OwnsG 9 w1.heap.size vo (digests (ls.take k)) wr ∧ Below w1.heap.size w1 wr) (fun _ vk _ => ls.length - (intOf vk).toNat)
  case atStart => exact ⟨0, by omega, rfl, .inl ⟨rfl, rfl⟩, Below.refl _ _⟩
  case round =>
    obtain ⟨k, hk, rfl, ho, b2⟩ := hrel
    by_cases hlt : k < ls.length
    · have hin : ls[k] ∈ ls := List.getElem_mem hlt
      have hs1 := hsz _ hin
      have BW := belowCall b1 b2
      have ck : wr.cell? ⟨gl, ol + k, none⟩ = some (.string ls[k]) := by
        rw [cell_below BW hgl (KL.out k hlt)]; simp [hlt]
      have HD : Hid (digests (ls.take (k + 1)) = digests (ls.take k) ++ [.string (ofBs (Sha.digest (bs ls[k])))]) := by
        unfold Hid digests; rw [List.take_succ_eq_append_getElem hlt, List.map_append]; rfl
      have HLen : Hid ((digests (ls.take k)).length + 1 ≤ 1000000000000) := by unfold Hid digests; simp; omega
      have i0 : (0 : Int) ≤ (k : Int) := by omega
      have i1 : (k : Int) < (ls.length : Int) := by omega
      generalize ls[k] = s at *
      go_wp2_with fail
      refine (filled_any s hs1 wr).mono ?_
      rintro e w3 ⟨vf, rfl, of, b3⟩
      have R2 := (r2.below b2).below b3
      have R3 := (r3.below b2).below b3
      have O1 := ho.below b3
      have B3 := belowCall b2 b3
      obtain ⟨m, hm⟩ : ∃ m, (bs s ++ Sha.ending s.size).length = 64 * m := ⟨(bs s ++ Sha.ending s.size).length / 64, by
        have := Sha.ending_length s.size; rw [List.length_append, bs_length]; omega⟩
      have hmb : m ≤ 10000000000 := by
        have : (Sha.ending s.size).length ≤ 72 := by have := Sha.noughts_lt s.size; simp [Sha.ending, Sha.be8]; omega
        rw [List.length_append, bs_length] at hm; omega
      have hm0 : 0 < m := by
        have : 0 < (Sha.ending s.size).length := by simp [Sha.ending]
        rw [List.length_append, bs_length] at hm; omega
      have hbl : Hid (∀ x ∈ bs s ++ Sha.ending s.size, x < 256) := by
        unfold Hid; intro x hx
        rcases List.mem_append.1 hx with hx | hx
        · exact bs_lt s x hx
        · exact Sha.ending_lt _ x hx
      have HG : Hid (Sha.digest (bs s) = Sha.tell (Sha.eat Sha.init (bs s ++ Sha.ending s.size))) := by unfold Hid Sha.digest; rw [bs_length]
      generalize bs s ++ Sha.ending s.size = L at *
      have hpos : 0 < (U8s L).toList.length := by rw [Array.length_toList, U8s_size, hm]; omega
      obtain ⟨gf, cf, hvf, hcf, hcf2, hgf1, hgf2⟩ := of.form hpos
      rw [Array.length_toList, U8s_size, hm] at hvf hcf
      subst hvf
      clear ck hin
      go_wp2_with fail
      go_loopw [7, 9] (fun vn vi W => ∃ j : Nat, j ≤ m ∧ vi = .int .i64 (64 * (j : Int)) ∧ Reads W vn (S8v (Sha.eat Sha.init (L.take (64 * j)))).toList ∧ Below w3.heap.size w3 W) (fun _ vi _ => 64 * m - (intOf vi).toNat)
      case atStart => exact ⟨0, by omega, rfl, by rw [Sha.eat_short _ (L.take (64 * 0)) (by simp)]; exact R2, Below.refl _ _⟩
      case round =>
        obtain ⟨j, hj, rfl, rn, b4⟩ := hrel
        by_cases hjt : j < m
        · have j0 : (0 : Int) ≤ 64 * (j : Int) := by omega
          have j1 : 64 * (j : Int) < 64 * (m : Int) := by omega
          have j2 : 64 * (j : Int) + 64 ≤ 64 * (m : Int) := by omega
          have j3 : wrap64 (64 * (j : Int) + 64) = 64 * (j : Int) + 64 := by unfold wrap64; omega
          have j4 : (0 : Int) ≤ 64 * (j : Int) + 64 := by omega
          have j5 : 64 * (j : Int) + 64 ≤ (cf : Int) := by omega
          have j6 : 64 * (j : Int) ≤ 64 * (j : Int) + 64 := by omega
          have j7 : ¬ cf = 64 * j := by omega
          have j8 : (64 * (j : Int)).toNat = 64 * j := by omega
          have j9 : (64 * (j : Int) + 64).toNat = 64 * j + 64 := by omega
          have j10 : 64 * j + 64 - 64 * j = 64 := by omega
          have hkb : Reads wr (.slice (some ⟨gf, 64 * j, none⟩) 64 (cf - 64 * j)) (U8s ((L.drop (64 * j)).take 64)).toList := by
            have hl64 : (U8s ((L.drop (64 * j)).take 64)).toList.length = 64 := by rw [Array.length_toList, U8s_size, List.length_take, List.length_drop, hm]; omega
            have hof := of.below b4
            have hfl : (U8s L).toList.length = 64 * m := by rw [Array.length_toList, U8s_size, hm]
            refine ⟨gf, 64 * j, cf - 64 * j, by rw [hl64], by rw [hl64]; omega, Nat.lt_of_lt_of_le hgf2 b4.size, fun q hq => ?_⟩
            rw [hl64] at hq
            rw [hof.cell (64 * j + q) (by rw [hfl]; omega), Array.getElem?_toList, Array.getElem?_toList, U8s_get _ _ (by rw [hm]; omega), U8s_get _ _ (by rw [List.length_take, List.length_drop, hm]; omega)]
            simp [List.getD_eq_getElem?_getD, hq]
          have HE : Hid _ := Sha.eat_block Sha.init L j (by rw [hm]; omega)
          have hok := Sha.eat_ok Sha.init (L.take (64 * j)) Sha.init_ok
          have hbl2 : ∀ x ∈ (L.drop (64 * j)).take 64, x < 256 := fun x hx => hbl.out x (List.mem_of_mem_drop (List.mem_of_mem_take hx))
          go_wp2_with fail
          refine (change_any _ hok _ (by rw [List.length_take, List.length_drop, hm]; omega) hbl2 _ _ _ wr rn (R3.below b4) hkb).mono ?_
          rintro e w5 ⟨v5, rfl, r5, b5⟩
          rw [← HE.out] at r5
          go_wp2_with fail
          go_roundw
          case rel => exact ⟨j + 1, by omega, by go_num, r5, belowCall b4 b5⟩
          case measure => simp [intOf]; omega
        · obtain rfl : j = m := by omega
          rw [← hm, List.take_length] at rn
          have hok := Sha.eat_ok Sha.init L Sha.init_ok
          generalize Sha.eat Sha.init L = t at *
          obtain ⟨gn, on, cn, rfl, _, hgn, kn⟩ := rn
          have O4 := O1.below b4
          obtain ⟨w4, rfl⟩ : ∃ w4, w4 = wr := ⟨wr, rfl⟩
          have hlt8 := S8_lt t hok
          have ln : (S8v t).toList.length = 8 := rfl
          rw [ln] at kn ⊢
          have HC : Hid (∀ W, Below w4.heap.size w4 W → ∀ i, i < 8 → W.cell? ⟨gn, on + i, none⟩ = some (.int .u32 (((S8.L t).getD i 0 : Nat) : Int))) := fun W hW i hi => by
            refine cell_below hW hgn ((kn i hi).trans ?_)
            rw [S8v_L, Array.getElem?_toList, U32s_get _ _ hi]
          clear kn ln
          go_wp2_with fail
          go_loopw [10, 11] (fun vd vi W => ∃ i : Nat, i ≤ 8 ∧ vi = .int .i64 (i : Int) ∧ OwnsG 5 w4.heap.size vd (U8s (Sha.tells ((S8.L t).take i))).toList W ∧ Below w4.heap.size w4 W) (fun _ vi _ => 8 - (intOf vi).toNat)
          case atStart => exact ⟨0, by omega, rfl, .inl ⟨rfl, rfl⟩, Below.refl _ _⟩
          case round =>
            obtain ⟨i, hi, rfl, od, b6⟩ := hrel
            by_cases hit : i < 8
            · have hx := getD_lt (S8.L t) _ (by decide) hlt8 i
              have HT : Hid (Sha.tells ((S8.L t).take (i + 1)) = Sha.tells ((S8.L t).take i) ++ Sha.be4 ((S8.L t).getD i 0) 4) := by
                unfold Hid; rw [← S8_take t i hit, Sha.tells_snoc]
              have HC1 : Hid (∀ W, Below w4.heap.size w4 W → W.cell? ⟨gn, on + i, none⟩ = some (.int .u32 (((S8.L t).getD i 0 : Nat) : Int))) := fun W hW => HC.out W hW i hit
              have h63 : Hid ((U8s (Sha.tells ((S8.L t).take i))).toList.length + 4 ≤ 1000000000000) := by
                unfold Hid; rw [Array.length_toList, U8s_size, Sha.tells_length, List.length_take]; omega
              have Hq : Hid _ := quo4 _ hx
              have i0 : (0 : Int) ≤ (i : Int) := by omega
              have i1 : (i : Int) < 8 := by omega
              generalize (S8.L t).getD i 0 = x at *
              go_wp2_with fail
              go_region_held3 (fun W => W.cell? ⟨gn, on + i, none⟩ = some (.int .u32 (x : Int))) (first | exact HC1.out _ b6.drew | exact HC1.out _ hB | exact HC1.out _ (b6.alloc b6.size _).drew) ((refine step_kept el5 rfl (.tmp 46) (.tmp 73) rfl w4.heap.size u10 (U8s (Sha.tells ((S8.L t).take i))).toList rfl (by exact od.alloc _) wr.heap.size _ #[_, _, _, _] rfl (by exact Has.new _ _ _ _ rfl) (by simp [Value.oneCell']) h63.out (Nat.le_trans b6.size (by simp)) ?_; intro v7 w7 ho7 _ hb7; have hB : Below w4.heap.size w4 w7 := ((b6.alloc b6.size _).drew).trans hb7))
              go_wp2_with fail
              rw [Hq.out, show (U8s (Sha.tells ((S8.L t).take i))).toList ++ (U8s (Sha.be4 x 4)).toList = (U8s (Sha.tells ((S8.L t).take i) ++ Sha.be4 x 4)).toList by simp [U8s], ← HT.out] at ho7
              exact ⟨⟨i + 1, by omega, by go_num, ho7, hB⟩, by simp [intOf]; omega⟩
            · obtain rfl : i = 8 := by omega
              rw [show (S8.L t).take 8 = S8.L t from rfl] at od
              have HG2 : Hid (Sha.digest (bs s) = Sha.tells (S8.L t)) := HG.out
              have hcv := conv_ownG od
              have O6 := O4.below b6
              have hsz2 : Hid (w1.heap.size ≤ wr.heap.size) := Nat.le_trans b2.size (Nat.le_trans b3.size (Nat.le_trans b4.size b6.size))
              clear od
              go_wp2_with (refine wpList_appG el9 rfl (.tmp 75) (.tmp 78) rfl w1.heap.size _ _ rfl (by exact OwnsG.alloc O6 _) _ _ #[_] rfl (by exact Has.new _ _ _ _ rfl) (by simp [Value.oneCell']) HLen.out (Nat.le_trans hsz2.out (by simp)) ?_; intro v7 w7 ho7 hb7)
              rw [← HG2.out] at ho7
              have ho8 : OwnsG 9 w1.heap.size v7 (digests (ls.take (k + 1))) w7 := by rw [HD.out]; exact ho7
              exact ⟨⟨k + 1, by omega, by go_num, ho8, (belowAlloc (belowCall (belowCall B3 b4) b6) _).trans hb7⟩, by simp [intOf]; omega⟩
    · obtain rfl : k = ls.length := by omega
      rw [List.take_length] at ho
      go_wp2_with fail
      go_ret
      exact ⟨_, rfl, ho.low b1.size, belowCall b1 b2⟩
theorem refSum_any (s : ByteArray) (hs : s.size ≤ 100000000000) (w : World) :
    Calls Tryz.prog 107 #[.string s] w fun e w' => e = .returned (.string (ofBs (Sha.digest (bs s)))) ∧ Below w.heap.size w w' := by
  go_enter Tryz.func107, Tryz.ntmps107
  go_wp2_with fail
  have hn : Has (w.alloc (Obj.cells #[Value.string s] 9)) w.heap.size #[Value.string s] 9 := Has.new _ _ _ _ rfl
  refine (sums_any [s] (by simp) (by simpa using hs) _ _ ⟨w.heap.size, 0, 1, rfl, Nat.le_refl _, hn.lt, fun j hj => ?_⟩).mono ?_
  · obtain rfl : j = 0 := by simpa using hj
    rw [hn.cell]; rfl
  · rintro e w1 ⟨v, rfl, ho, b1⟩
    obtain ⟨g, cap, hv, hcap, _, hg1, hg2⟩ := ho.form (by simp [digests])
    have hc : w1.cell? ⟨g, 0, none⟩ = some (.string (ofBs (Sha.digest (bs s)))) := by
      subst hv; exact ho.cell 0 (by simp [digests])
    rw [show (digests [s]).length = 1 from rfl] at hv
    subst hv
    have B1 := belowCall (belowAlloc (Below.refl _ w) _) b1
    clear hn ho b1
    go_wp2_with fail
    go_ret
    exact ⟨rfl, B1⟩
end Go.Proofs.YtmpgfpmkmgebdaaGreatDoor.F
/- The contract of Parse. -/
/- strings.Cut at a dot. -/
namespace Go.Proofs.YtmpgfpmkmgebdaaGreatDoor.F
open Go.RowKit
theorem str_ne {a b : ByteArray} (h : bs a ≠ bs b) : (a.toList == b.toList) = false := by
  rw [beq_eq_false_iff_ne]
  intro e
  rw [ByteArray.toList_eq, ByteArray.toList_eq] at e
  exact h (by unfold bs; rw [e])
end Go.Proofs.YtmpgfpmkmgebdaaGreatDoor.F
namespace Go.Proofs.YtmpgfpmkmgebdaaGreatDoor.F
open Go.RowKit
theorem bs_extract (s : ByteArray) (a b : Nat) : bs (s.extract a b) = ((bs s).take b).drop a := by
  have e : (s.extract a b).data.toList = (s.data.toList.take b).drop a := by
    rw [ByteArray.data_extract, Array.toList_extract, List.extract_eq_take_drop, List.drop_take]
  unfold bs; rw [e, List.map_drop, List.map_take]
end Go.Proofs.YtmpgfpmkmgebdaaGreatDoor.F
/- The contract of takenOff: a shard as data tell it. -/
namespace Go.Proofs.YtmpgfpmkmgebdaaGreatDoor.F
open Go.RowKit
end Go.Proofs.YtmpgfpmkmgebdaaGreatDoor.F
/- The contract of Read. -/
namespace Go.Proofs.YtmpgfpmkmgebdaaGreatDoor.F
open Go.RowKit
end Go.Proofs.YtmpgfpmkmgebdaaGreatDoor.F
/- awake: the examples. -/
/- What Make's bytes tell, and what bytes that Read takes must be. No program in it. -/
namespace Go.Proofs.YtmpgfpmkmgebdaaGreatDoor.F
open Go.RowKit
theorem mid_take (A B C : List Nat) : ((A ++ (B ++ C)).take (A.length + B.length)).drop A.length = B := by
  rw [List.take_append, List.drop_append]
  simp
end Go.Proofs.YtmpgfpmkmgebdaaGreatDoor.F
namespace Go.Proofs.YtmpgfpmkmgebdaaGreatDoor.F
open Go.RowKit
end Go.Proofs.YtmpgfpmkmgebdaaGreatDoor.F
/- A row of bytes that a string was made into; and what Read refuses, over bytes alone. -/
namespace Go.Proofs.YtmpgfpmkmgebdaaGreatDoor.F
open Go.RowKit
/-- block g begins by these bytes, and they may be written -/
def BRow (W : World) (g : Nat) (l : List Nat) : Prop := ∃ cs t fr, W.heap[g]? = some (.cells cs t fr) ∧ (∀ j, j < l.length → cs[j]? = some (.int .u8 ((l.getD j 0 : Nat) : Int))) ∧ l.length ≤ fr.1
theorem BRow.lt {W : World} {g : Nat} {l : List Nat} (h : BRow W g l) : g < W.heap.size := by
  obtain ⟨cs, t, fr, h, _⟩ := h; exact (Array.getElem?_eq_some_iff.1 h).1
theorem BRow.cell {W : World} {g : Nat} {l : List Nat} (h : BRow W g l) (j : Nat) (hj : j < l.length) : W.cell? ⟨g, j, none⟩ = some (.int .u8 ((l.getD j 0 : Nat) : Int)) := by
  obtain ⟨cs, t, fr, h, hc, _⟩ := h
  simp [World.cell?, h, hc j hj]
theorem BRow.below {W W' : World} {g : Nat} {l : List Nat} (h : BRow W g l) (hb : Below W.heap.size W W') : BRow W' g l := by
  have hl := h.lt
  obtain ⟨cs, t, fr, h, r⟩ := h
  exact ⟨cs, t, fr, by rw [hb.block g hl]; exact h, r⟩
theorem BRow.alloc {W : World} {g : Nat} {l : List Nat} (h : BRow W g l) (o : Obj) : BRow (W.alloc o) g l := h.below ((Below.refl _ _).alloc (Nat.le_refl _) o)
theorem brow_new (w : World) (s : ByteArray) : BRow (Lib.bytesWorld w 5 s) w.heap.size (bs s) := by
  refine ⟨_, _, _, Lib.bytesWorld_at_new w 5 s, fun j hj => ?_, ?_⟩
  · rw [bs_length] at hj
    have h := Lib.bytesWorld_cell w 5 s j hj
    rw [World.cell?, Lib.bytesWorld_at_new] at h
    have h' : (Lib.bytesCells w 5 s)[j]? = some (Value.int .u8 ((s.data.toList.getD j 0).toNat : Int)) := h
    rw [h']
    congr 3
    simp [bs, List.getD_eq_getElem?_getD, hj]
  · have hge := grownCap_ge w s.size 0 5
    rw [bs_length]
    simp [Lib.bytesCells]
end Go.Proofs.YtmpgfpmkmgebdaaGreatDoor.F
/- A region that draws its order, one that stores among the operations that may come in whatever order. No program in it. -/
namespace Go.Proofs.YtmpgfpmkmgebdaaGreatDoor.F
open Go.RowKit
namespace Tl
end Tl
end Go.Proofs.YtmpgfpmkmgebdaaGreatDoor.F
