/- The contract of the document's change: what eight numbers become by 64 bytes. -/
import Derived.Test.YtjhjolnflkekoaaDoorSWsTo
namespace Go.Proofs.YtjhjolnflkekoaaDoor.S
open Go.RowKit
theorem sum4 (p q r s : Nat) (hp : p < 256) (hq : q < 256) (hr : r < 256) (hs : s < 256) :
    IntKind.u32.wrap (IntKind.u32.wrap (IntKind.u32.wrap (IntKind.u32.wrap (IntKind.u32.wrap (p : Int) * 16777216) + IntKind.u32.wrap (IntKind.u32.wrap (q : Int) * 65536)) + IntKind.u32.wrap (IntKind.u32.wrap (r : Int) * 256)) + IntKind.u32.wrap (s : Int)) = ((p * 16777216 + q * 65536 + r * 256 + s : Nat) : Int) := by
  have e1 : IntKind.u32.wrap (IntKind.u32.wrap (p : Int) * 16777216) = ((p * 16777216 : Nat) : Int) := by
    rw [IntKind.wrap_u32', IntKind.wrap_u32']; omega
  have e2 : IntKind.u32.wrap (IntKind.u32.wrap (q : Int) * 65536) = ((q * 65536 : Nat) : Int) := by
    rw [IntKind.wrap_u32', IntKind.wrap_u32']; omega
  have e3 : IntKind.u32.wrap (IntKind.u32.wrap (r : Int) * 256) = ((r * 256 : Nat) : Int) := by
    rw [IntKind.wrap_u32', IntKind.wrap_u32']; omega
  have e4 : IntKind.u32.wrap (s : Int) = ((s : Nat) : Int) := by
    rw [IntKind.wrap_u32']; omega
  rw [e1, e2, e3, e4, IntKind.wrap_u32', IntKind.wrap_u32', IntKind.wrap_u32']; omega
theorem rawX (e f g h k w : Nat) (he : e < 4294967296) (hf : f < 4294967296) (hg : g < 4294967296) :
    ((h : Int) + bits BinOp.xor IntKind.u32 (bits BinOp.xor IntKind.u32 ((Sha.rotr e 6 : Nat) : Int) ((Sha.rotr e 11 : Nat) : Int)) ((Sha.rotr e 25 : Nat) : Int)
      + bits BinOp.xor IntKind.u32 (bits BinOp.and IntKind.u32 (e : Int) (f : Int)) (bits BinOp.and IntKind.u32 (bits BinOp.xor IntKind.u32 IntKind.u32.max (e : Int)) (g : Int))
      + (k : Int) + (w : Int)) % 4294967296 = ((Sha.tX e f g h k w : Nat) : Int) := tX_close e f g h k w he hf hg
theorem rndA (a b c e f g h k w : Nat) (ha : a < 4294967296) (hb : b < 4294967296) (hc : c < 4294967296) (he : e < 4294967296) (hf : f < 4294967296) (hg : g < 4294967296) :
    ((h : Int) + bits BinOp.xor IntKind.u32 (bits BinOp.xor IntKind.u32 ((Sha.rotr e 6 : Nat) : Int) ((Sha.rotr e 11 : Nat) : Int)) ((Sha.rotr e 25 : Nat) : Int)
      + bits BinOp.xor IntKind.u32 (bits BinOp.and IntKind.u32 (e : Int) (f : Int)) (bits BinOp.and IntKind.u32 (bits BinOp.xor IntKind.u32 IntKind.u32.max (e : Int)) (g : Int))
      + (k : Int) + (w : Int) + (bits BinOp.xor IntKind.u32 (bits BinOp.xor IntKind.u32 ((Sha.rotr a 2 : Nat) : Int) ((Sha.rotr a 13 : Nat) : Int)) ((Sha.rotr a 22 : Nat) : Int)
      + bits BinOp.xor IntKind.u32 (bits BinOp.xor IntKind.u32 (bits BinOp.and IntKind.u32 (a : Int) (b : Int)) (bits BinOp.and IntKind.u32 (a : Int) (c : Int))) (bits BinOp.and IntKind.u32 (b : Int) (c : Int)))) % 4294967296 = (((Sha.tX e f g h k w + Sha.tY a b c) % 4294967296 : Nat) : Int) := by
  have h1 := rawX e f g h k w he hf hg
  have h2 := tY_close a b c ha hb hc
  omega
theorem rndE (d e f g h k w : Nat) (he : e < 4294967296) (hf : f < 4294967296) (hg : g < 4294967296) :
    ((d : Int) + ((h : Int) + bits BinOp.xor IntKind.u32 (bits BinOp.xor IntKind.u32 ((Sha.rotr e 6 : Nat) : Int) ((Sha.rotr e 11 : Nat) : Int)) ((Sha.rotr e 25 : Nat) : Int)
      + bits BinOp.xor IntKind.u32 (bits BinOp.and IntKind.u32 (e : Int) (f : Int)) (bits BinOp.and IntKind.u32 (bits BinOp.xor IntKind.u32 IntKind.u32.max (e : Int)) (g : Int))
      + (k : Int) + (w : Int))) % 4294967296 = (((d + Sha.tX e f g h k w) % 4294967296 : Nat) : Int) := by
  have h1 := rawX e f g h k w he hf hg
  omega
theorem sum8 (s t : Sha.S8) : #[Value.int IntKind.u32 (IntKind.u32.wrap ((s.a : Int) + (t.a : Int))), Value.int IntKind.u32 (IntKind.u32.wrap ((s.b : Int) + (t.b : Int))), Value.int IntKind.u32 (IntKind.u32.wrap ((s.c : Int) + (t.c : Int))), Value.int IntKind.u32 (IntKind.u32.wrap ((s.d : Int) + (t.d : Int))), Value.int IntKind.u32 (IntKind.u32.wrap ((s.e : Int) + (t.e : Int))), Value.int IntKind.u32 (IntKind.u32.wrap ((s.f : Int) + (t.f : Int))), Value.int IntKind.u32 (IntKind.u32.wrap ((s.g : Int) + (t.g : Int))), Value.int IntKind.u32 (IntKind.u32.wrap ((s.h : Int) + (t.h : Int)))] = S8v (Sha.plus s t) := by
  have h : ∀ x y : Nat, IntKind.u32.wrap ((x : Int) + (y : Int)) = (((x + y) % 4294967296 : Nat) : Int) := fun x y => by rw [IntKind.wrap_u32']; omega
  simp only [h]
  rfl
theorem reads_new8 (W : World) (cs : Array Value) (h8 : cs.size = 8) (s : Sha.S8) (e : cs = S8v s) : Reads (W.alloc (.cells cs 64)).drew (.slice (some ⟨W.heap.size, 0, none⟩) 8 8) (S8v s).toList := by
  subst e
  have hn : Has (W.alloc (.cells (S8v s) 64)) W.heap.size (S8v s) 64 := Has.new _ _ _ _ rfl
  refine ⟨W.heap.size, 0, 8, rfl, Nat.le_refl _, hn.lt, fun j _ => ?_⟩
  rw [Nat.zero_add]
  exact (hn.cell j).trans (by simp)
set_option maxRecDepth 20000 in
set_option maxHeartbeats 2000000 in
theorem change_any (s : Sha.S8) (hs : s.ok) (b : List Nat) (hb : b.length = 64) (hbb : ∀ x ∈ b, x < 256) (vn va vb : Value) (w : World) (rn : Reads w vn (S8v s).toList) (ra : Reads w va (U32s Sha.cube).toList) (rb : Reads w vb (U8s b).toList) :
    Calls Tryd.prog 54 #[vn, va, vb] w fun e w' => ∃ v, e = .returned v ∧ Reads w' v (S8v (Sha.mix s b)).toList ∧ Below w.heap.size w w' := by
  obtain ⟨gn, on, cn, rfl, _, hgn, kn⟩ := rn
  obtain ⟨ga, oa, ca, rfl, _, hga, ka⟩ := ra
  obtain ⟨gb, ob, cb, rfl, _, hgb, kb⟩ := rb
  have ln : (S8v s).toList.length = 8 := rfl
  have la : (U32s Sha.cube).toList.length = 64 := rfl
  have lb : (U8s b).toList.length = 64 := by rw [Array.length_toList, U8s_size, hb]
  rw [ln] at kn ⊢
  rw [la] at ka ⊢
  rw [lb] at kb ⊢
  have KN : Hid _ := kn
  have KA : Hid _ := ka
  have KB : Hid _ := kb
  clear kn ka kb ln la lb
  go_enter Tryd.func54, Tryd.ntmps54
  go_wp2_with fail
  go_loopw [7, 8] (fun v i wr => ∃ k : Nat, k ≤ 64 ∧ i = .int .i64 (k : Int) ∧ OwnsG 64 w.heap.size v (U32s (wsTo b k)).toList wr ∧ Below w.heap.size w wr) (fun _ i _ => 64 - (intOf i).toNat)
  case atStart => exact ⟨0, by omega, rfl, OwnsG.of (Owns.nil _ _ _), Below.refl _ _⟩
  case round =>
    obtain ⟨k, hk, rfl, h1, b1⟩ := hrel
    by_cases hlt : k < 64
    · by_cases h16 : k < 16
      · have g0 := getD_lt b 256 (by decide) hbb (4 * k)
        have g1 := getD_lt b 256 (by decide) hbb (4 * k + 1)
        have g2 := getD_lt b 256 (by decide) hbb (4 * k + 2)
        have g3 := getD_lt b 256 (by decide) hbb (4 * k + 3)
        have HB : Hid (∀ W, Below w.heap.size w W → W.cell? ⟨gb, ob + 4 * k, none⟩ = some (.int .u8 ((b.getD (4 * k) 0 : Nat) : Int)) ∧ W.cell? ⟨gb, ob + (4 * k + 1), none⟩ = some (.int .u8 ((b.getD (4 * k + 1) 0 : Nat) : Int)) ∧ W.cell? ⟨gb, ob + (4 * k + 2), none⟩ = some (.int .u8 ((b.getD (4 * k + 2) 0 : Nat) : Int)) ∧ W.cell? ⟨gb, ob + (4 * k + 3), none⟩ = some (.int .u8 ((b.getD (4 * k + 3) 0 : Nat) : Int))) := fun W hW => by
          refine ⟨?_, ?_, ?_, ?_⟩ <;> exact cell_below hW hgb ((KB.out _ (by omega)).trans (by rw [Array.getElem?_toList, U8s_get _ _ (by omega)]))
        have HW : Hid (Sha.word b k = b.getD (4 * k) 0 * 16777216 + b.getD (4 * k + 1) 0 * 65536 + b.getD (4 * k + 2) 0 * 256 + b.getD (4 * k + 3) 0) := rfl
        have HS : Hid (wsTo b k ++ [Sha.word b k] = wsTo b (k + 1)) := by unfold Hid; rw [← ws_low b k h16]; exact wsTo_succ b k hlt
        generalize b.getD (4 * k) 0 = p0 at *
        generalize b.getD (4 * k + 1) 0 = p1 at *
        generalize b.getD (4 * k + 2) 0 = p2 at *
        generalize b.getD (4 * k + 3) 0 = p3 at *
        have H4 : Hid _ := sum4 p0 p1 p2 p3 g0 g1 g2 g3
        have f0 : (0 : Int) ≤ 4 * (k : Int) := by omega
        have f1 : 4 * (k : Int) < 64 := by omega
        have f2 : 4 * (k : Int) + 1 < 64 := by omega
        have f3 : 4 * (k : Int) + 2 < 64 := by omega
        have f4 : 4 * (k : Int) + 3 < 64 := by omega
        have f5 : (0 : Int) ≤ 4 * (k : Int) + 1 := by omega
        have f6 : (0 : Int) ≤ 4 * (k : Int) + 2 := by omega
        have f7 : (0 : Int) ≤ 4 * (k : Int) + 3 := by omega
        have e0 : IntKind.i64.wrap (4 * (k : Int)) = 4 * (k : Int) := wrap_i64_of (by omega) (by omega)
        have e1 : IntKind.i64.wrap (4 * (k : Int) + 1) = 4 * (k : Int) + 1 := wrap_i64_of (by omega) (by omega)
        have e2 : IntKind.i64.wrap (4 * (k : Int) + 2) = 4 * (k : Int) + 2 := wrap_i64_of (by omega) (by omega)
        have e3 : IntKind.i64.wrap (4 * (k : Int) + 3) = 4 * (k : Int) + 3 := wrap_i64_of (by omega) (by omega)
        have n0 : (4 * (k : Int)).toNat = 4 * k := by omega
        have n1 : (4 * (k : Int) + 1).toNat = 4 * k + 1 := by omega
        have n2 : (4 * (k : Int) + 2).toNat = 4 * k + 2 := by omega
        have n3 : (4 * (k : Int) + 3).toNat = 4 * k + 3 := by omega
        have h63 : Hid ((U32s (wsTo b k)).toList.length + 1 ≤ 1000000000000) := by unfold Hid; rw [Array.length_toList, U32s_size, wsTo_length _ _ hk]; omega
        clear g0 g1 g2 g3
        go_wp2_with fail
        go_region_held3 (fun W => Below w.heap.size w W ∧ W.cell? ⟨gb, ob + 4 * k, none⟩ = some (.int .u8 (p0 : Int)) ∧ W.cell? ⟨gb, ob + (4 * k + 1), none⟩ = some (.int .u8 (p1 : Int)) ∧ W.cell? ⟨gb, ob + (4 * k + 2), none⟩ = some (.int .u8 (p2 : Int)) ∧ W.cell? ⟨gb, ob + (4 * k + 3), none⟩ = some (.int .u8 (p3 : Int))) (first | exact ⟨b1.drew, HB.out _ b1.drew⟩ | exact ⟨hB, HB.out _ hB⟩ | exact ⟨(belowAlloc b1 _).drew, HB.out _ (belowAlloc b1 _).drew⟩) ((refine step_kept el40 rfl (.tmp 28) (.tmp 62) rfl w.heap.size u7 (U32s (wsTo b k)).toList rfl (by exact h1.alloc _) wr.heap.size _ #[_] rfl (by exact Has.new _ _ _ _ rfl) (by simp [Value.oneCell']) h63.out (Nat.le_trans b1.size (by simp)) ?_; intro v1 w1 ho _ hb2; have hB : Below w.heap.size w w1 := ((belowAlloc b1 _).drew).trans hb2))
        go_wp2_with fail
        rw [U32s_app1 _ _ _ H4.out, ← HW.out, HS.out] at ho
        exact ⟨⟨k + 1, by omega, by go_num, ho, hB⟩, by simp [intOf]; omega⟩
      · have hl : (U32s (wsTo b k)).toList.length = k := by rw [Array.length_toList, U32s_size, wsTo_length _ _ hk]
        obtain ⟨g, cap, hv, hcap, _, hgw, hgs⟩ := h1.form (by rw [hl]; omega)
        rw [hl] at hv hcap
        subst hv
        have hc : ∀ j, j < k → wr.cell? ⟨g, j, none⟩ = some (.int .u32 (((Sha.ws b).getD j 0 : Nat) : Int)) := fun j hj => by
          rw [h1.cell j (by rw [hl]; exact hj), Array.getElem?_toList, U32s_get _ _ (by rw [wsTo_length _ _ hk]; exact hj), wsTo_get _ _ _ hj]
        obtain ⟨n, rfl⟩ : ∃ n, k = n + 16 := ⟨k - 16, by omega⟩
        have hall := ws_all b hbb
        have hp := getD_lt (Sha.ws b) _ (by decide) hall (n + 1)
        have hq := getD_lt (Sha.ws b) _ (by decide) hall (n + 14)
        have c1 := hc (n + 1) (by omega)
        have c2 := hc (n + 14) (by omega)
        have c3 := hc n (by omega)
        have c4 := hc (n + 9) (by omega)
        have HX : Hid _ := ws_high b n (by omega)
        have HS : Hid _ := wsTo_succ b (n + 16) hlt
        have X3 : Hid ((U32s (wsTo b (n + 16))).toList[n]? = some (.int .u32 (((Sha.ws b).getD n 0 : Nat) : Int))) := by unfold Hid; rw [Array.getElem?_toList, U32s_get _ _ (by rw [wsTo_length _ _ hk]; omega), wsTo_get _ _ _ (by omega)]
        have X4 : Hid ((U32s (wsTo b (n + 16))).toList[n + 9]? = some (.int .u32 (((Sha.ws b).getD (n + 9) 0 : Nat) : Int))) := by unfold Hid; rw [Array.getElem?_toList, U32s_get _ _ (by rw [wsTo_length _ _ hk]; omega), wsTo_get _ _ _ (by omega)]
        have HL : Hid ((U32s (wsTo b (n + 16))).toList.length = n + 16) := hl
        have h63 : Hid ((U32s (wsTo b (n + 16))).toList.length + 1 ≤ 1000000000000) := by unfold Hid; rw [hl]; omega
        generalize (Sha.ws b).getD n 0 = r at *
        generalize (Sha.ws b).getD (n + 1) 0 = p at *
        generalize (Sha.ws b).getD (n + 14) 0 = q at *
        generalize (Sha.ws b).getD (n + 9) 0 = s' at *
        generalize (Sha.ws b).getD (n + 16) 0 = nw at *
        clear hall hc hl
        rw [show ((n + 16 : Nat) : Int) = (n : Int) + 16 by omega]
        have d1 : (n : Int) + 16 < 64 := by omega
        have d2 : ¬ (n : Int) + 16 < 16 := by omega
        clear hlt h16 hk hcap
        have t1 : ((n : Int) + 16 - 15) = (n : Int) + 1 := by omega
        have t2 : ((n : Int) + 16 - 2) = (n : Int) + 14 := by omega
        have t3 : ((n : Int) + 16 - 16) = (n : Int) := by omega
        have t4 : ((n : Int) + 16 - 7) = (n : Int) + 9 := by omega
        have e1 : IntKind.i64.wrap ((n : Int) + 1) = (n : Int) + 1 := wrap_i64_of (by omega) (by omega)
        have e2 : IntKind.i64.wrap ((n : Int) + 14) = (n : Int) + 14 := wrap_i64_of (by omega) (by omega)
        have e3 : IntKind.i64.wrap (n : Int) = (n : Int) := wrap_i64_of (by omega) (by omega)
        have e4 : IntKind.i64.wrap ((n : Int) + 9) = (n : Int) + 9 := wrap_i64_of (by omega) (by omega)
        have u1 : ((n : Int) + 1).toNat = n + 1 := by omega
        have u2 : ((n : Int) + 14).toNat = n + 14 := by omega
        have u4 : ((n : Int) + 9).toNat = n + 9 := by omega
        have v1 : (n : Int) + 1 < (n : Int) + 16 := by omega
        have v2 : (n : Int) + 14 < (n : Int) + 16 := by omega
        have v3 : (n : Int) < (n : Int) + 16 := by omega
        have v4 : (n : Int) + 9 < (n : Int) + 16 := by omega
        have w0 : (0 : Int) ≤ (n : Int) := by omega
        have w1 : (0 : Int) ≤ (n : Int) + 1 := by omega
        have w2 : (0 : Int) ≤ (n : Int) + 14 := by omega
        have w4 : (0 : Int) ≤ (n : Int) + 9 := by omega
        go_wp2_with fail
        go_region_held3 (fun W => W.cell? ⟨g, n + 1, none⟩ = some (.int .u32 (p : Int))) (exact c1) ((go_at_call 59; refine (refTurn_any p _ _ hp (by decide) (by decide)).mono ?_; rintro e w' ⟨rfl, rfl⟩))
        go_wp2_with fail
        go_region_held3 (fun W => W.cell? ⟨g, n + 14, none⟩ = some (.int .u32 (q : Int))) (exact c2) ((go_at_call 59; refine (refTurn_any q _ _ hq (by decide) (by decide)).mono ?_; rintro e w' ⟨rfl, rfl⟩))
        go_wp2_with fail
        have HK : Hid (∀ W, Below wr.heap.size wr W → W.cell? ⟨g, n, none⟩ = some (.int .u32 (r : Int)) ∧ W.cell? ⟨g, n + 9, none⟩ = some (.int .u32 (s' : Int))) := fun W hW => ⟨cell_below hW hgs c3, cell_below hW hgs c4⟩
        have BR := Below.refl wr.heap.size wr
        simp only [sig0_close p hp, sig1_close q hq]
        go_region_held3 (fun W => W.cell? ⟨g, n, none⟩ = some (.int .u32 (r : Int)) ∧ W.cell? ⟨g, n + 9, none⟩ = some (.int .u32 (s' : Int))) (first | exact ⟨c3, c4⟩ | exact hC | exact HK.out _ (belowAlloc BR _).drew.drew.drew) ((refine step_kept el40 rfl (.tmp 104) (.tmp 120) rfl w.heap.size (.slice (some ⟨g, 0, none⟩) (n + 16) cap) (U32s (wsTo b (n + 16))).toList rfl (by exact h1.alloc _) wr.heap.size _ #[_] rfl (by exact Has.new _ _ _ _ rfl) (by simp [Value.oneCell']) h63.out (Nat.le_trans b1.size (by simp)) ?_; intro v1 w1 ho hkept hb2; have hC : w1.cell? ⟨g, n, none⟩ = some (.int .u32 (r : Int)) ∧ w1.cell? ⟨g, n + 9, none⟩ = some (.int .u32 (s' : Int)) := ⟨(hkept g _ _ rfl n (by rw [HL.out]; omega)).trans X3.out, (hkept g _ _ rfl (n + 9) (by rw [HL.out]; omega)).trans X4.out⟩))
        go_wp2_with fail
        have HN : IntKind.u32.wrap (IntKind.u32.wrap (IntKind.u32.wrap ((r : Int) + (s' : Int)) + ((Sha.sig0 p : Nat) : Int)) + ((Sha.sig1 q : Nat) : Int)) = ((nw : Nat) : Int) := by
          simp only [IntKind.wrap_u32']; rw [HX.out]; exact next_close r s' p q
        rw [U32s_app1 _ _ _ HN, HS.out] at ho
        exact ⟨⟨n + 16 + 1, by omega, by go_num, ho, ((belowAlloc b1 _).drew.drew.drew).trans hb2⟩, by simp [intOf]; omega⟩
    · obtain rfl : k = 64 := by omega
      have hl : (U32s (wsTo b 64)).toList.length = 64 := by rw [Array.length_toList, U32s_size, wsTo_length _ _ (Nat.le_refl _)]
      obtain ⟨g, cap, hv, hcap, _, hgw, hgs⟩ := h1.form (by rw [hl]; omega)
      rw [hl] at hv hcap
      subst hv
      have hc : Hid (∀ W, Below wr.heap.size wr W → ∀ j, j < 64 → W.cell? ⟨g, j, none⟩ = some (.int .u32 (((Sha.ws b).getD j 0 : Nat) : Int))) := fun W hW j hj => by
        refine cell_below hW hgs ?_
        rw [h1.cell j (by rw [hl]; exact hj), Array.getElem?_toList, U32s_get _ _ (by rw [wsTo_length _ _ (Nat.le_refl _)]; exact hj), wsTo_get _ _ _ hj]
      have hd : Hid (∀ W, Below wr.heap.size wr W → ∀ j, j < 64 → W.cell? ⟨ga, oa + j, none⟩ = some (.int .u32 ((Sha.cube.getD j 0 : Nat) : Int))) := fun W hW j hj => by
        refine cell_below (belowCall b1 hW) hga ?_
        rw [KA.out j hj, Array.getElem?_toList, U32s_get _ _ hj]
      have he : Hid (∀ W, Below wr.heap.size wr W → W.cell? ⟨gn, on, none⟩ = some (.int .u32 (s.a : Int)) ∧ W.cell? ⟨gn, on + 1, none⟩ = some (.int .u32 (s.b : Int)) ∧ W.cell? ⟨gn, on + 2, none⟩ = some (.int .u32 (s.c : Int)) ∧ W.cell? ⟨gn, on + 3, none⟩ = some (.int .u32 (s.d : Int)) ∧ W.cell? ⟨gn, on + 4, none⟩ = some (.int .u32 (s.e : Int)) ∧ W.cell? ⟨gn, on + 5, none⟩ = some (.int .u32 (s.f : Int)) ∧ W.cell? ⟨gn, on + 6, none⟩ = some (.int .u32 (s.g : Int)) ∧ W.cell? ⟨gn, on + 7, none⟩ = some (.int .u32 (s.h : Int))) := fun W hW => by
        have hB := belowCall b1 hW
        exact ⟨cell_below hB hgn (KN.out 0 (by decide)), cell_below hB hgn (KN.out 1 (by decide)), cell_below hB hgn (KN.out 2 (by decide)), cell_below hB hgn (KN.out 3 (by decide)), cell_below hB hgn (KN.out 4 (by decide)), cell_below hB hgn (KN.out 5 (by decide)), cell_below hB hgn (KN.out 6 (by decide)), cell_below hB hgn (KN.out 7 (by decide))⟩
      obtain ⟨k0, k1, k2, k3, k4, k5, k6, k7⟩ := he.out _ (Below.refl _ _)
      have BR := Below.refl wr.heap.size wr
      clear h1 hl hcap hlt hk
      go_wp2_with fail
      go_quiet (fail)
      go_wp2_with fail
      go_loopw [11, 12, 13, 14, 15, 16, 17, 18, 19] (fun va vb vc vd ve vf vg vh vi wr' => ∃ (i : Nat) (t : Sha.S8), i ≤ 64 ∧ t = Sha.rounds Sha.cube (Sha.ws b) i s ∧ va = .int .u32 (t.a : Int) ∧ vb = .int .u32 (t.b : Int) ∧ vc = .int .u32 (t.c : Int) ∧ vd = .int .u32 (t.d : Int) ∧ ve = .int .u32 (t.e : Int) ∧ vf = .int .u32 (t.f : Int) ∧ vg = .int .u32 (t.g : Int) ∧ vh = .int .u32 (t.h : Int) ∧ vi = .int .i64 (i : Int) ∧ Below wr.heap.size wr wr') (fun _ _ _ _ _ _ _ _ vi _ => 64 - (intOf vi).toNat)
      case atStart => exact ⟨0, s, by omega, rfl, rfl, rfl, rfl, rfl, rfl, rfl, rfl, rfl, rfl, below_drewN BR _⟩
      case round =>
        clear k0 k1 k2 k3 k4 k5 k6 k7
        obtain ⟨i, t, hi, ht', rfl, rfl, rfl, rfl, rfl, rfl, rfl, rfl, rfl, hM⟩ := hrel
        have hok : t.ok := by rw [ht']; exact Sha.rounds_ok _ _ _ _ hs
        by_cases hlt : i < 64
        · have hrs : Hid (Sha.rounds Sha.cube (Sha.ws b) (i + 1) s = Sha.rnd t (Sha.cube.getD i 0) ((Sha.ws b).getD i 0)) := by unfold Hid; rw [ht']; rfl
          have c1 := hd.out _ hM i hlt
          have c5' := hc.out _ hM i hlt
          clear ht'
          generalize Sha.cube.getD i 0 = kk at c1 hrs
          generalize (Sha.ws b).getD i 0 = ww at c5' hrs
          obtain ⟨a, b', c, d, e, f, g', h0⟩ := t
          obtain ⟨ha, hb', hc', hd', he', hf, hg, hh⟩ := hok
          simp only at ha hb' hc' hd' he' hf hg hh
          have i0 : (0 : Int) ≤ (i : Int) := by omega
          have i1 : (i : Int) < 64 := by omega
          go_wp2_with fail
          go_quiet ((go_at_call 59; exact Calls.quiet_of_same (refTurn_any _ _ _ (by assumption) (by decide) (by decide))))
          go_wp2_with (go_at_call 59; refine (refTurn_any _ _ _ (by assumption) (by decide) (by decide)).mono ?_; rintro e w' ⟨rfl, rfl⟩)
          go_light
          rw [rndA a b' c e f g' h0 kk ww ha hb' hc' he' hf hg, rndE d e f g' h0 kk ww he' hf hg]
          refine ⟨⟨_, _, _, _, _, _, _, _, _, ⟨i + 1, by omega, ?_⟩, rfl, rfl, rfl, rfl, rfl, rfl, rfl, rfl, rfl⟩, by simp [intOf]; omega⟩
          rw [hrs.out]
          exact ⟨rfl, rfl, rfl, rfl, rfl, rfl, rfl, rfl, by go_num, below_drewN hM _⟩
        · obtain rfl : i = 64 := by omega
          have hmix : Hid (Sha.mix s b = Sha.plus s t) := by unfold Hid Sha.mix; rw [ht']
          clear ht'
          have hB := belowCall b1 hM
          go_wp2_with fail
          go_region_held3 (fun W => W.cell? ⟨gn, on, none⟩ = some (.int .u32 (s.a : Int)) ∧ W.cell? ⟨gn, on + 1, none⟩ = some (.int .u32 (s.b : Int)) ∧ W.cell? ⟨gn, on + 2, none⟩ = some (.int .u32 (s.c : Int)) ∧ W.cell? ⟨gn, on + 3, none⟩ = some (.int .u32 (s.d : Int)) ∧ W.cell? ⟨gn, on + 4, none⟩ = some (.int .u32 (s.e : Int)) ∧ W.cell? ⟨gn, on + 5, none⟩ = some (.int .u32 (s.f : Int)) ∧ W.cell? ⟨gn, on + 6, none⟩ = some (.int .u32 (s.g : Int)) ∧ W.cell? ⟨gn, on + 7, none⟩ = some (.int .u32 (s.h : Int))) (first | exact he.out _ hM.drew | exact he.out _ (hM.alloc hM.size _).drew) (fail)
          go_wp2_with fail
          go_ret
          exact ⟨_, rfl, reads_new8 _ _ rfl _ ((sum8 s t).trans (by rw [hmix.out])), (hB.alloc hB.size _).drew⟩
end Go.Proofs.YtjhjolnflkekoaaDoor.S
