/- The contract of the document's Sums: of each text its digest. -/
import Derived.Test.YtjhjolnflkekoaaDoorSChange
import Derived.Test.YtjhjolnflkekoaaDoorSFilled
import Derived.Test.YtjhjolnflkekoaaDoorSSum
namespace Go.Proofs.YtjhjolnflkekoaaDoor.S
open Go.RowKit
namespace Sha
theorem ending_length (n : Nat) : (n + (ending n).length) % 64 = 0 := by
  have h := noughts_at n
  have : (ending n).length = 1 + noughts n + 8 := by simp [ending, be8]; omega
  omega
theorem eat_block (s : S8) (L : List Nat) (j : Nat) (h : 64 * (j + 1) ≤ L.length) : eat s (L.take (64 * (j + 1))) = mix (eat s (L.take (64 * j))) ((L.drop (64 * j)).take 64) := by
  have hl : (L.take (64 * j)).length = 64 * j := by rw [List.length_take]; omega
  have hb : ((L.drop (64 * j)).take 64).length = 64 := by rw [List.length_take, List.length_drop]; omega
  have e1 : L.take (64 * (j + 1)) = L.take (64 * j) ++ (L.drop (64 * j)).take 64 := by
    rw [show 64 * (j + 1) = 64 * j + 64 by omega, List.take_add]
  have e2 : left (L.take (64 * j)) = [] := by
    apply List.eq_nil_of_length_eq_zero; rw [left_length, hl]; omega
  rw [e1, ← eat_app, e2, List.nil_append]
  generalize (L.drop (64 * j)).take 64 = B at hb
  have e3 : B.take 64 = B := List.take_of_length_le (by omega)
  rw [eat_step _ B (by omega), eat_short _ (B.drop 64) (by rw [List.length_drop]; omega), e3]
end Sha
theorem conv_ownG {base : Nat} {v : Value} {l : List Nat} {w : World} (h : OwnsG 5 base v (U8s l).toList w) : (convert 51 9 v).run Tryd.prog w = .ok (.string (ofBs l)) w := by
  rcases h with ⟨rfl, h0⟩ | ⟨g, cap, cur, fz, rfl, hh⟩
  · have hl : l = [] := by
      have := congrArg List.length h0
      rw [Array.length_toList, U8s_size] at this
      exact List.eq_nil_of_length_eq_zero this
    subst hl
    exact conv_nil w
  · have hc : OwnsG 5 base (.slice (some ⟨g, 0, none⟩) (U8s l).toList.length cap) (U8s l).toList w := .inr ⟨g, cap, cur, fz, rfl, hh⟩
    have h2 := run_loadCells_list (P := Tryd.prog) w ⟨g, 0, none⟩ (U8s l).toList (fun j v hv => by
      have hj : j < (U8s l).toList.length := (List.getElem?_eq_some_iff.1 hv).1
      rw [Addr.add_mid, Nat.zero_add, hc.cell j hj]; exact hv)
    have hl : (loadCells ⟨g, 0, none⟩ (U8s l).toList.length).run Tryd.prog w = .ok ((l.map fun x : Nat => (x : Int)).map (Value.int .u8)).toArray w := by
      rw [h2]; simp [U8s]
    rw [run_convert_bytes_string w 51 9 5 _ _ _ Tryd.underlying51 Tryd.underlying5 Tryd.underlying9, run_bytesToString w _ _ _ _ hl, fold_push]
    simp [ofBs]
theorem OwnsG.low {e : TypeId} {base base' : Nat} {v : Value} {xs : List Value} {w : World} (h : OwnsG e base v xs w) (hb : base' ≤ base) : OwnsG e base' v xs w := by
  rcases h with h | ⟨g, cap, cur, fz, hv, hg, hr⟩
  · exact .inl h
  · exact .inr ⟨g, cap, cur, fz, hv, Nat.le_trans hb hg, hr⟩
theorem quo4 (x : Nat) (hx : x < 4294967296) : #[Value.int .u8 (IntKind.u8.wrap (IntKind.u32.wrap ((x : Int) / 16777216))), .int .u8 (IntKind.u8.wrap ((IntKind.u32.wrap ((x : Int) / 65536)).tmod 256)), .int .u8 (IntKind.u8.wrap ((IntKind.u32.wrap ((x : Int) / 256)).tmod 256)), .int .u8 (IntKind.u8.wrap ((x : Int).tmod 256))] = U8s (Sha.be4 x 4) := by
  have h0 : IntKind.u8.wrap (IntKind.u32.wrap ((x : Int) / 16777216)) = ((x / 2 ^ 24 % 256 : Nat) : Int) := by
    rw [IntKind.wrap_u32', IntKind.wrap_u8']; omega
  have h1 : IntKind.u8.wrap ((IntKind.u32.wrap ((x : Int) / 65536)).tmod 256) = ((x / 2 ^ 16 % 256 : Nat) : Int) := by
    rw [IntKind.wrap_u32', Int.tmod_eq_emod_of_nonneg (by omega), IntKind.wrap_u8']; omega
  have h2 : IntKind.u8.wrap ((IntKind.u32.wrap ((x : Int) / 256)).tmod 256) = ((x / 2 ^ 8 % 256 : Nat) : Int) := by
    rw [IntKind.wrap_u32', Int.tmod_eq_emod_of_nonneg (by omega), IntKind.wrap_u8']; omega
  have h3 : IntKind.u8.wrap ((x : Int).tmod 256) = ((x / 2 ^ 0 % 256 : Nat) : Int) := by
    rw [Int.tmod_eq_emod_of_nonneg (by omega), IntKind.wrap_u8']; omega
  rw [h0, h1, h2, h3]
  rfl
theorem S8_take (t : Sha.S8) (i : Nat) (h : i < 8) : (S8.L t).take i ++ [(S8.L t).getD i 0] = (S8.L t).take (i + 1) := take_app _ _ h
theorem S8_lt (t : Sha.S8) (ht : t.ok) : ∀ x ∈ S8.L t, x < 4294967296 := by
  obtain ⟨a, b, c, d, e, f, g, h⟩ := ht
  intro x hx
  simp only [S8.L, List.mem_cons, List.not_mem_nil, or_false] at hx
  rcases hx with rfl | rfl | rfl | rfl | rfl | rfl | rfl | rfl <;> assumption
def digests (ls : List ByteArray) : List Value := ls.map fun s => .string (ofBs (Sha.digest (bs s)))
theorem S8v_init : U32s Ref.initL = S8v Sha.init := rfl
set_option maxRecDepth 20000 in
set_option maxHeartbeats 2000000 in
theorem sums_any (ls : List ByteArray) (hls : ls.length ≤ 1000000000) (hsz : ∀ s ∈ ls, s.size ≤ 100000000000) (v : Value) (w : World) (rv : Reads w v (ls.map .string)) :
    Calls Tryd.prog 44 #[v] w fun e w' => ∃ v', e = .returned v' ∧ OwnsG 9 w.heap.size v' (digests ls) w' ∧ Below w.heap.size w w' := by
  obtain ⟨gl, ol, cl, rfl, _, hgl, kl⟩ := rv
  rw [List.length_map] at kl ⊢
  have KL : Hid _ := kl
  clear kl
  go_enter Tryd.func44, Tryd.ntmps44
  go_wp2_with fail
  refine (roots_any w).mono ?_
  rintro e w1 ⟨v2, v3, rfl, r2, r3, b1⟩
  rw [S8v_init] at r2
  go_wp2_with fail
  go_loopw [5, 6] (fun vo vk wr => ∃ k : Nat, k ≤ ls.length ∧ vk = .int .i64 (k : Int) ∧ OwnsG 9 w1.heap.size vo (digests (ls.take k)) wr ∧ Below w1.heap.size w1 wr) (fun _ vk _ => ls.length - (intOf vk).toNat)
  case atStart => exact ⟨0, by omega, rfl, .inl ⟨rfl, rfl⟩, Below.refl _ _⟩
  case round =>
    obtain ⟨k, hk, rfl, ho, b2⟩ := hrel
    by_cases hlt : k < ls.length
    · have hin : ls[k] ∈ ls := List.getElem_mem hlt
      have hs1 := hsz _ hin
      have BW := belowCall b1 b2
      have ck : wr.cell? ⟨gl, ol + k, none⟩ = some (.string ls[k]) := by
        rw [cell_below BW hgl (KL.out k hlt)]; simp [hlt]
      have HD : Hid (digests (ls.take (k + 1)) = digests (ls.take k) ++ [.string (ofBs (Sha.digest (bs ls[k])))]) := by
        unfold Hid digests; rw [List.take_succ_eq_append_getElem hlt, List.map_append]; rfl
      have HLen : Hid ((digests (ls.take k)).length + 1 ≤ 1000000000000) := by unfold Hid digests; simp; omega
      have i0 : (0 : Int) ≤ (k : Int) := by omega
      have i1 : (k : Int) < (ls.length : Int) := by omega
      generalize ls[k] = s at *
      go_wp2_with fail
      refine (filled_any s hs1 wr).mono ?_
      rintro e w3 ⟨vf, rfl, of, b3⟩
      have R2 := (r2.below b2).below b3
      have R3 := (r3.below b2).below b3
      have O1 := ho.below b3
      have B3 := belowCall b2 b3
      obtain ⟨m, hm⟩ : ∃ m, (bs s ++ Sha.ending s.size).length = 64 * m := ⟨(bs s ++ Sha.ending s.size).length / 64, by
        have := Sha.ending_length s.size; rw [List.length_append, bs_length]; omega⟩
      have hmb : m ≤ 10000000000 := by
        have : (Sha.ending s.size).length ≤ 72 := by have := Sha.noughts_lt s.size; simp [Sha.ending, Sha.be8]; omega
        rw [List.length_append, bs_length] at hm; omega
      have hm0 : 0 < m := by
        have : 0 < (Sha.ending s.size).length := by simp [Sha.ending]
        rw [List.length_append, bs_length] at hm; omega
      have hbl : Hid (∀ x ∈ bs s ++ Sha.ending s.size, x < 256) := by
        unfold Hid; intro x hx
        rcases List.mem_append.1 hx with hx | hx
        · exact bs_lt s x hx
        · exact Sha.ending_lt _ x hx
      have HG : Hid (Sha.digest (bs s) = Sha.tell (Sha.eat Sha.init (bs s ++ Sha.ending s.size))) := by unfold Hid Sha.digest; rw [bs_length]
      generalize bs s ++ Sha.ending s.size = L at *
      have hpos : 0 < (U8s L).toList.length := by rw [Array.length_toList, U8s_size, hm]; omega
      obtain ⟨gf, cf, hvf, hcf, hcf2, hgf1, hgf2⟩ := of.form hpos
      rw [Array.length_toList, U8s_size, hm] at hvf hcf
      subst hvf
      clear ck hin
      go_wp2_with fail
      go_loopw [7, 9] (fun vn vi W => ∃ j : Nat, j ≤ m ∧ vi = .int .i64 (64 * (j : Int)) ∧ Reads W vn (S8v (Sha.eat Sha.init (L.take (64 * j)))).toList ∧ Below w3.heap.size w3 W) (fun _ vi _ => 64 * m - (intOf vi).toNat)
      case atStart => exact ⟨0, by omega, rfl, by rw [Sha.eat_short _ (L.take (64 * 0)) (by simp)]; exact R2, Below.refl _ _⟩
      case round =>
        obtain ⟨j, hj, rfl, rn, b4⟩ := hrel
        by_cases hjt : j < m
        · have j0 : (0 : Int) ≤ 64 * (j : Int) := by omega
          have j1 : 64 * (j : Int) < 64 * (m : Int) := by omega
          have j2 : 64 * (j : Int) + 64 ≤ 64 * (m : Int) := by omega
          have j3 : wrap64 (64 * (j : Int) + 64) = 64 * (j : Int) + 64 := by unfold wrap64; omega
          have j4 : (0 : Int) ≤ 64 * (j : Int) + 64 := by omega
          have j5 : 64 * (j : Int) + 64 ≤ (cf : Int) := by omega
          have j6 : 64 * (j : Int) ≤ 64 * (j : Int) + 64 := by omega
          have j7 : ¬ cf = 64 * j := by omega
          have j8 : (64 * (j : Int)).toNat = 64 * j := by omega
          have j9 : (64 * (j : Int) + 64).toNat = 64 * j + 64 := by omega
          have j10 : 64 * j + 64 - 64 * j = 64 := by omega
          have hkb : Reads wr (.slice (some ⟨gf, 64 * j, none⟩) 64 (cf - 64 * j)) (U8s ((L.drop (64 * j)).take 64)).toList := by
            have hl64 : (U8s ((L.drop (64 * j)).take 64)).toList.length = 64 := by rw [Array.length_toList, U8s_size, List.length_take, List.length_drop, hm]; omega
            have hof := of.below b4
            have hfl : (U8s L).toList.length = 64 * m := by rw [Array.length_toList, U8s_size, hm]
            refine ⟨gf, 64 * j, cf - 64 * j, by rw [hl64], by rw [hl64]; omega, Nat.lt_of_lt_of_le hgf2 b4.size, fun q hq => ?_⟩
            rw [hl64] at hq
            rw [hof.cell (64 * j + q) (by rw [hfl]; omega), Array.getElem?_toList, Array.getElem?_toList, U8s_get _ _ (by rw [hm]; omega), U8s_get _ _ (by rw [List.length_take, List.length_drop, hm]; omega)]
            simp [List.getD_eq_getElem?_getD, hq]
          have HE : Hid _ := Sha.eat_block Sha.init L j (by rw [hm]; omega)
          have hok := Sha.eat_ok Sha.init (L.take (64 * j)) Sha.init_ok
          have hbl2 : ∀ x ∈ (L.drop (64 * j)).take 64, x < 256 := fun x hx => hbl.out x (List.mem_of_mem_drop (List.mem_of_mem_take hx))
          go_wp2_with fail
          refine (change_any _ hok _ (by rw [List.length_take, List.length_drop, hm]; omega) hbl2 _ _ _ wr rn (R3.below b4) hkb).mono ?_
          rintro e w5 ⟨v5, rfl, r5, b5⟩
          rw [← HE.out] at r5
          go_wp2_with fail
          go_roundw
          case rel => exact ⟨j + 1, by omega, by go_num, r5, belowCall b4 b5⟩
          case measure => simp [intOf]; omega
        · obtain rfl : j = m := by omega
          rw [← hm, List.take_length] at rn
          have hok := Sha.eat_ok Sha.init L Sha.init_ok
          generalize Sha.eat Sha.init L = t at *
          obtain ⟨gn, on, cn, rfl, _, hgn, kn⟩ := rn
          have O4 := O1.below b4
          obtain ⟨w4, rfl⟩ : ∃ w4, w4 = wr := ⟨wr, rfl⟩
          have hlt8 := S8_lt t hok
          have ln : (S8v t).toList.length = 8 := rfl
          rw [ln] at kn ⊢
          have HC : Hid (∀ W, Below w4.heap.size w4 W → ∀ i, i < 8 → W.cell? ⟨gn, on + i, none⟩ = some (.int .u32 (((S8.L t).getD i 0 : Nat) : Int))) := fun W hW i hi => by
            refine cell_below hW hgn ((kn i hi).trans ?_)
            rw [S8v_L, Array.getElem?_toList, U32s_get _ _ hi]
          clear kn ln
          go_wp2_with fail
          go_loopw [10, 11] (fun vd vi W => ∃ i : Nat, i ≤ 8 ∧ vi = .int .i64 (i : Int) ∧ OwnsG 5 w4.heap.size vd (U8s (Sha.tells ((S8.L t).take i))).toList W ∧ Below w4.heap.size w4 W) (fun _ vi _ => 8 - (intOf vi).toNat)
          case atStart => exact ⟨0, by omega, rfl, .inl ⟨rfl, rfl⟩, Below.refl _ _⟩
          case round =>
            obtain ⟨i, hi, rfl, od, b6⟩ := hrel
            by_cases hit : i < 8
            · have hx := getD_lt (S8.L t) _ (by decide) hlt8 i
              have HT : Hid (Sha.tells ((S8.L t).take (i + 1)) = Sha.tells ((S8.L t).take i) ++ Sha.be4 ((S8.L t).getD i 0) 4) := by
                unfold Hid; rw [← S8_take t i hit, Sha.tells_snoc]
              have HC1 : Hid (∀ W, Below w4.heap.size w4 W → W.cell? ⟨gn, on + i, none⟩ = some (.int .u32 (((S8.L t).getD i 0 : Nat) : Int))) := fun W hW => HC.out W hW i hit
              have h63 : Hid ((U8s (Sha.tells ((S8.L t).take i))).toList.length + 4 ≤ 1000000000000) := by
                unfold Hid; rw [Array.length_toList, U8s_size, Sha.tells_length, List.length_take]; omega
              have Hq : Hid _ := quo4 _ hx
              have i0 : (0 : Int) ≤ (i : Int) := by omega
              have i1 : (i : Int) < 8 := by omega
              generalize (S8.L t).getD i 0 = x at *
              go_wp2_with fail
              go_region_held3 (fun W => W.cell? ⟨gn, on + i, none⟩ = some (.int .u32 (x : Int))) (first | exact HC1.out _ b6.drew | exact HC1.out _ hB | exact HC1.out _ (b6.alloc b6.size _).drew) ((refine step_kept el5 rfl (.tmp 46) (.tmp 73) rfl w4.heap.size u10 (U8s (Sha.tells ((S8.L t).take i))).toList rfl (by exact od.alloc _) wr.heap.size _ #[_, _, _, _] rfl (by exact Has.new _ _ _ _ rfl) (by simp [Value.oneCell']) h63.out (Nat.le_trans b6.size (by simp)) ?_; intro v7 w7 ho7 _ hb7; have hB : Below w4.heap.size w4 w7 := ((b6.alloc b6.size _).drew).trans hb7))
              go_wp2_with fail
              rw [Hq.out, show (U8s (Sha.tells ((S8.L t).take i))).toList ++ (U8s (Sha.be4 x 4)).toList = (U8s (Sha.tells ((S8.L t).take i) ++ Sha.be4 x 4)).toList by simp [U8s], ← HT.out] at ho7
              exact ⟨⟨i + 1, by omega, by go_num, ho7, hB⟩, by simp [intOf]; omega⟩
            · obtain rfl : i = 8 := by omega
              rw [show (S8.L t).take 8 = S8.L t from rfl] at od
              have HG2 : Hid (Sha.digest (bs s) = Sha.tells (S8.L t)) := HG.out
              have hcv := conv_ownG od
              have O6 := O4.below b6
              have hsz2 : Hid (w1.heap.size ≤ wr.heap.size) := Nat.le_trans b2.size (Nat.le_trans b3.size (Nat.le_trans b4.size b6.size))
              clear od
              go_wp2_with (refine wpList_appG el9 rfl (.tmp 75) (.tmp 78) rfl w1.heap.size _ _ rfl (by exact OwnsG.alloc O6 _) _ _ #[_] rfl (by exact Has.new _ _ _ _ rfl) (by simp [Value.oneCell']) HLen.out (Nat.le_trans hsz2.out (by simp)) ?_; intro v7 w7 ho7 hb7)
              rw [← HG2.out] at ho7
              have ho8 : OwnsG 9 w1.heap.size v7 (digests (ls.take (k + 1))) w7 := by rw [HD.out]; exact ho7
              exact ⟨⟨k + 1, by omega, by go_num, ho8, (belowAlloc (belowCall (belowCall B3 b4) b6) _).trans hb7⟩, by simp [intOf]; omega⟩
    · obtain rfl : k = ls.length := by omega
      rw [List.take_length] at ho
      go_wp2_with fail
      go_ret
      exact ⟨_, rfl, ho.low b1.size, belowCall b1 b2⟩
theorem refSum_any (s : ByteArray) (hs : s.size ≤ 100000000000) (w : World) :
    Calls Tryd.prog 32 #[.string s] w fun e w' => e = .returned (.string (ofBs (Sha.digest (bs s)))) ∧ Below w.heap.size w w' := by
  go_enter Tryd.func32, Tryd.ntmps32
  go_wp2_with fail
  have hn : Has (w.alloc (Obj.cells #[Value.string s] 9)) w.heap.size #[Value.string s] 9 := Has.new _ _ _ _ rfl
  refine (sums_any [s] (by simp) (by simpa using hs) _ _ ⟨w.heap.size, 0, 1, rfl, Nat.le_refl _, hn.lt, fun j hj => ?_⟩).mono ?_
  · obtain rfl : j = 0 := by simpa using hj
    rw [hn.cell]; rfl
  · rintro e w1 ⟨v, rfl, ho, b1⟩
    obtain ⟨g, cap, hv, hcap, _, hg1, hg2⟩ := ho.form (by simp [digests])
    have hc : w1.cell? ⟨g, 0, none⟩ = some (.string (ofBs (Sha.digest (bs s)))) := by
      subst hv; exact ho.cell 0 (by simp [digests])
    rw [show (digests [s]).length = 1 from rfl] at hv
    subst hv
    have B1 := belowCall (belowAlloc (Below.refl _ w) _) b1
    clear hn ho b1
    go_wp2_with fail
    go_ret
    exact ⟨rfl, B1⟩
end Go.Proofs.YtjhjolnflkekoaaDoor.S
