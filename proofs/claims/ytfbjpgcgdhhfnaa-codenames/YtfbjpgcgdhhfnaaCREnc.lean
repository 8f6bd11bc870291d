/- The document's Encode. -/
import Derived.Test.YtfbjpgcgdhhfnaaCEnc
import Derived.Test.YtfbjpgcgdhhfnaaCApp
import Derived.Test.YtfbjpgcgdhhfnaaXROf
namespace Go.Proofs.Ytfbjpgcgdhhfnaa
open Go.RowKit
theorem pad_head (b : List Nat) : rowN 8 (pad b) = [lenB b.length 0, lenB b.length 1, lenB b.length 2, lenB b.length 3, lenB b.length 4, lenB b.length 5, lenB b.length 6, lenB b.length 7] := rfl
theorem pad_8b {b : List Nat} : rowN 8 (pad b) ++ b = rowN (8 + b.length) (pad b) := by
  apply ext_getD 0
  · simp [rowN_length]
  · intro j hj
    have hj' : j < 8 + b.length := by simpa [rowN_length] using hj
    rw [rowN_get _ _ _ hj']
    by_cases h : j < 8
    · rw [getD_left _ _ _ _ (by rw [rowN_length]; exact h), rowN_get _ _ _ h]
    · rw [getD_right _ _ _ _ (by rw [rowN_length]; omega), rowN_length]; unfold pad; rw [if_neg h]
theorem rowN_push (m : Nat) (f : Nat → Nat) : rowN m f ++ [f m] = rowN (m + 1) f := by
  unfold rowN; rw [List.range_succ, List.map_append]; rfl
theorem len_small {n : Nat} (h : n ≤ 32768) : lenB n 0 = 0 ∧ lenB n 1 = 0 ∧ lenB n 2 = 0 ∧ lenB n 3 = 0 ∧ lenB n 4 = 0 ∧ lenB n 5 = 0 ∧ lenB n 6 = n / 256 % 256 ∧ lenB n 7 = n % 256 := by
  refine ⟨?_, ?_, ?_, ?_, ?_, ?_, ?_, ?_⟩
  · show n / 72057594037927936 % 256 = 0; omega
  · show n / 281474976710656 % 256 = 0; omega
  · show n / 1099511627776 % 256 = 0; omega
  · show n / 4294967296 % 256 = 0; omega
  · show n / 16777216 % 256 = 0; omega
  · show n / 65536 % 256 = 0; omega
  · show n / 256 % 256 = n / 256 % 256; rfl
  · show n / 1 % 256 = n % 256; omega
/-- j products are added, and of the first t bytes one more -/
def soF (r : Nat → Nat → Nat) (j t : Nat) : Nat → Nat := fun n => if n < t then El.xs (j + 1) (r n) else El.xs j (r n)
theorem soF_set (z : Nat) (r : Nat → Nat → Nat) (j t : Nat) : rowN z (fun n => if n = t then El.xs j (r t) ^^^ r t j else soF r j t n) = rowN z (soF r j (t + 1)) := rowN_congr fun n _ => by
  unfold soF
  by_cases h : n = t
  · subst h; rw [if_pos rfl, if_pos (by omega)]; rfl
  · rw [if_neg h]
    by_cases h2 : n < t
    · rw [if_pos h2, if_pos (by omega)]
    · rw [if_neg h2, if_neg (by omega)]
theorem soF_next (z : Nat) (r : Nat → Nat → Nat) (j : Nat) : rowN z (soF r j z) = rowN z (soF r (j + 1) 0) := rowN_congr fun n hn => by
  unfold soF; rw [if_pos hn, if_neg (by omega)]
theorem soF_skip (z : Nat) (r : Nat → Nat → Nat) (j : Nat) (h : ∀ n, r n j = 0) : rowN z (soF r j 0) = rowN z (soF r (j + 1) 0) := rowN_congr fun n hn => by
  unfold soF; rw [if_neg (by omega), if_neg (by omega), El.xs, h, Nat.xor_zero]
theorem encL_take (K N : Nat) (b : List Nat) (i : Nat) (hi : i < N) : (encL K N b).take i ++ [payL K b i] = (encL K N b).take (i + 1) := by
  rw [List.take_succ_eq_append_getElem (by rw [encL_length]; exact hi)]
  simp [encL]
set_option maxRecDepth 20000 in
set_option maxHeartbeats 4000000 in
theorem refEncode_ok (K N : Nat) (b : List Nat) (w : World) (h1 : 1 ≤ K) (h2 : K ≤ N) (h3 : N ≤ 12) (hl : b.length ≤ 32768) (hb : ∀ x ∈ b, x < 256) :
    Calls Try.prog 12 #[cv K N, .string (ofBs b)] w fun e w' => ∃ r, e = .returned (.tuple #[r, .int .i64 0]) ∧ Owns 9 w.heap.size r (SVs (encL K N b)) w' ∧ Below w.heap.size w w' := by
  have hm : Mx.mayC K N = true := by unfold Mx.mayC; simp; omega
  have bA : Below w.heap.size w (w.alloc (.cells #[.int .i64 (K : Int), .int .i64 (N : Int)] 24)) := (Below.refl _ _).alloc (Nat.le_refl _) _
  have hcell : Has (w.alloc (.cells #[.int .i64 (K : Int), .int .i64 (N : Int)] 24)) w.heap.size #[.int .i64 (K : Int), .int .i64 (N : Int)] 24 := Has.new w w.heap.size _ 24 rfl
  have hsz := refSize_any K N (b.length : Int) (w.alloc (.cells #[.int .i64 (K : Int), .int .i64 (N : Int)] 24))
  have ez : ansZ K N (b.length : Int) = ((sz K b.length : Nat) : Int) ∧ errZ K N (b.length : Int) = 0 := by
    unfold ansZ errZ; rw [hm]; simp; omega
  rw [ez.1, ez.2] at hsz
  have hbs : (ofBs b).size = b.length := ofBs_size b
  obtain ⟨f1, f2, f3⟩ := sz_facts K b.length h1
  have f4 := sz_le K b.length h1
  obtain ⟨z, hzd⟩ : ∃ z, Hid (z = sz K b.length) := ⟨_, rfl⟩
  rw [← hzd.out] at f1 f2 f3 f4 hsz
  have HSZ := hid hsz
  have f6 : K * z ≤ 12 * z := Nat.mul_le_mul_right _ (by omega)
  have HB := hid hb
  have HPL := hid (pad_lt hb)
  clear hsz ez hb hm
  unfold cv at HSZ ⊢
  go_enter Try.func12, Try.ntmps12
  go_wp2_with fail
  refine HSZ.out.mono ?_
  rintro e w1 ⟨rfl, b1⟩
  have B1 := belowCall bA b1
  have hC1 := hcell.below b1 (by simp)
  have hcs1 := hC1.lt
  have c0 : ∀ ob, (w1.alloc ob).cell? ⟨w.heap.size, 0, none⟩ = some (.int .i64 (K : Int)) := fun ob => (hC1.alloc ob).cell 0
  clear b1 HSZ hcell bA
  obtain ⟨e0, e1, e2, e3, e4, e5, e6, e7⟩ := len_small hl
  have n5 : (b.length : Int) / 65536 = 0 := by omega
  have n6 : (b.length : Int) / 256 % 256 = ((lenB b.length 6 : Nat) : Int) := by rw [e6]; omega
  have n7 : (b.length : Int) % 256 = ((lenB b.length 7 : Nat) : Int) := by rw [e7]; omega
  have HO : Hid (∀ ob, ob = Obj.cells #[.int .u8 0, .int .u8 0, .int .u8 0, .int .u8 0, .int .u8 0, .int .u8 0, .int .u8 ((lenB b.length 6 : Nat) : Int), .int .u8 ((lenB b.length 7 : Nat) : Int)] 5 → Owns 5 w1.heap.size (.slice (some ⟨w1.heap.size, 0, none⟩) 8 8) (U8s (rowN 8 (pad b))).toList (w1.alloc ob)) := fun ob hob => by
    subst hob
    have hh := Has.new w1 w1.heap.size (U8s (rowN 8 (pad b))) 5 rfl
    have ee : U8s (rowN 8 (pad b)) = #[.int .u8 0, .int .u8 0, .int .u8 0, .int .u8 0, .int .u8 0, .int .u8 0, .int .u8 ((lenB b.length 6 : Nat) : Int), .int .u8 ((lenB b.length 7 : Nat) : Int)] := by
      rw [pad_head, e0, e1, e2, e3, e4, e5]; rfl
    have := Owns.ofHas (base := w1.heap.size) hh (Nat.le_refl _) (by rw [rowN_length]; omega)
    rw [rowN_length] at this
    rw [← ee]; exact this
  have p6 := lenB_lt b.length 6
  have p7 := lenB_lt b.length 7
  clear e0 e1 e2 e3 e4 e5 e6 e7
  generalize lenB b.length 6 = y6 at *
  generalize lenB b.length 7 = y7 at *
  go_wp2_with (refine wpList_appB rfl (.tmp 40) (.tmp 41) rfl w1.heap.size _ (rowN 8 (pad b)) b (8 + b.length) rfl (by exact HO.out _ rfl) rfl HB.out (by rw [rowN_length]) (by omega) (by rw [rowN_length]; omega) (by simp) ?_; intro g2 cap2 w2 ho2 hb2)
  have hB2 : Below w1.heap.size w1 w2 := ((Below.refl _ _).alloc (Nat.le_refl _) _).trans hb2
  rw [pad_8b] at ho2
  have HO2 := hid ho2
  obtain ⟨S, hS⟩ : ∃ S, Hid (S = K * z) := ⟨_, rfl⟩
  rw [← hS.out] at f1 f2 f6
  have m1 : (z : Int) * (K : Int) = (S : Int) := by rw [hS.out, Int.mul_comm]; simp
  have HCb : Hid (∀ W, Below w1.heap.size w1 W → W.cell? ⟨w.heap.size, 0, none⟩ = some (.int .i64 (K : Int)) ∧ W.cell? ⟨w.heap.size, 1, none⟩ = some (.int .i64 (N : Int))) := fun W hW =>
    ⟨(hC1.below hW hcs1).cell 0, (hC1.below hW hcs1).cell 1⟩
  clear ho2 hb2 HO n5 n6 n7 p6 p7 c0
  go_loopg [8] (S - (8 + b.length)) (fun g1 s8 wx => ∃ q gg cp : Nat, q + g1 = S ∧ 8 + b.length ≤ q ∧ s8 = .slice (some ⟨gg, 0, none⟩) q cp ∧ Hid (Owns 5 w1.heap.size (.slice (some ⟨gg, 0, none⟩) q cp) (U8s (rowN q (pad b))).toList wx) ∧ Below w1.heap.size w1 wx)
  case atStart => exact ⟨8 + b.length, g2, cap2, by omega, Nat.le_refl _, rfl, HO2, hB2⟩
  case round =>
    obtain ⟨q, gg, cp, hqg, hq8, rfl, hO, hbq⟩ := hrel
    obtain ⟨c0, c1⟩ := HCb.out wr hbq
    clear HO2 hB2
    cases gk with
    | succ g1 =>
      have hz1 : (q : Int) < (S : Int) := by omega
      have HR0 : Hid (∀ ob, ob = Obj.cells #[.int .u8 0] 5 → Owns 5 w1.heap.size (.slice (some ⟨gg, 0, none⟩) q cp) (U8s (rowN q (pad b))).toList (wr.alloc ob) ∧ Row8 (wr.alloc ob) (.slice (some ⟨wr.heap.size, 0, none⟩) 1 1) [0] ∧ w1.heap.size ≤ (wr.alloc ob).heap.size ∧ Below w1.heap.size w1 (wr.alloc ob)) := fun ob hob => by
        subst hob
        have hh := Has.new wr wr.heap.size #[.int .u8 0] 5 rfl
        refine ⟨hO.out.alloc _, ⟨_, 1, rfl, by simp, by simp, fun _ => ⟨wr.heap.size, 0, rfl, hh.lt, fun j hj => ?_⟩⟩, by have := hbq.size; simp; omega, hbq.alloc hbq.size _⟩
        have hj1 : j < 1 := hj
        obtain rfl : j = 0 := by omega
        exact hh.cell 0
      have HPz : Hid (rowN q (pad b) ++ [0] = rowN (q + 1) (pad b)) := by
        unfold Hid; rw [← rowN_push, pad_zero hq8]
      clear hO
      go_wp2_with (refine wpList_appW rfl (.tmp 50) (.tmp 51) rfl w1.heap.size _ _ (rowN q (pad b)) [0] (q + 1) rfl (by exact (HR0.out _ rfl).1) rfl (by exact (HR0.out _ rfl).2.1) (by rw [rowN_length]; rfl) (by omega) (by omega) (by exact (HR0.out _ rfl).2.2.1) ?_; intro g3 cap3 w3 ho3 hb3; rw [HPz.out] at ho3; have HO3 := hid ho3; have hB3 := (HR0.out _ rfl).2.2.2.trans hb3; clear ho3 hb3)
      go_roundg g1
      case measure => omega
      case rel => exact ⟨q + 1, g3, cap3, by omega, by omega, by first | rfl | simp, HO3, hB3⟩
    | zero =>
      have hz1 : ¬ ((q : Int) < (S : Int)) := by omega
      obtain rfl : q = S := by omega
      obtain ⟨a1, a2, a3⟩ := hO.out.at (rowN_lt HPL.out) (by rw [rowN_length]; omega)
      rw [rowN_length] at a3
      have HA3 : Hid (∀ n, n < q → wr.cell? ⟨gg, n, none⟩ = some (.int .u8 ((pad b n : Nat) : Int))) := fun n hn => by
        rw [a3 n hn, rowN_get _ _ _ hn]
      clear a3 hO
      go_wp2_with fail
      refine (Mx.refOf_t K N h1 h2 h3 wr).mono ?_
      rintro e w3 ⟨rm, rfl, hmat, b3⟩
      have hmat' : Mat w3 rm (Mx.ofM K N) := hmat
      have hlm : (Mx.ofM K N).length = N := Mx.grid_length _ _ _
      obtain ⟨gm, om, cm, hrm, _, hgm, hrows⟩ := hmat'.some (by omega)
      rw [hlm] at hrm
      subst hrm
      have HRows : Hid (∀ W, Below w3.heap.size w3 W → ∀ i, i < N → ∀ j, j < K → ∃ gi oi ci, W.cell? ⟨gm, om + i, none⟩ = some (.slice (some ⟨gi, oi, none⟩) K ci) ∧ W.cell? ⟨gi, oi + j, none⟩ = some (.int .u8 ((Mx.ofVal K i j : Nat) : Int))) := fun W hW i hi j hj => by
        obtain ⟨r, k1, k2⟩ := hrows i (by omega)
        have hrl : ((Mx.ofM K N).getD i []).length = K := Mx.grid_row_length _ _ _ _ hi
        obtain ⟨gi, oi, ci, rfl, _, _, k3, k4⟩ := k2.some (by omega)
        rw [hrl] at k1 k4
        have k5 := k4 j hj
        rw [show ((Mx.ofM K N).getD i []).getD j 0 = Mx.ofVal K i j from ofM_row K N i j hi hj] at k5
        exact ⟨gi, oi, ci, cell_below hW hgm k1, cell_below hW k3 k5⟩
      have B3 := belowCall (show Below w.heap.size w wr from B1.trans (hbq.mono B1.size)) b3
      have HAll : Hid (∀ W, Below w3.heap.size w3 W → ∀ n, n < q → W.cell? ⟨gg, 0 + n, none⟩ = some (.int .u8 ((pad b n : Nat) : Int))) := fun W hW n hn => by
        rw [Nat.zero_add]
        exact cell_below hW (Nat.lt_of_lt_of_le a2 b3.size) (cell_below b3 a2 (HA3.out n hn))
      have HCc : Hid (∀ W, Below w3.heap.size w3 W → W.cell? ⟨w.heap.size, 0, none⟩ = some (.int .i64 (K : Int)) ∧ W.cell? ⟨w.heap.size, 1, none⟩ = some (.int .i64 (N : Int))) := fun W hW =>
        HCb.out W ((hbq.trans (b3.mono hbq.size)).trans (hW.mono (Nat.le_trans hbq.size b3.size)))
      clear HA3 hrows hmat hmat' HCb c0 c1 b3 hgm hbq
      go_wp2_with fail
      go_loopg [11, 12] N (fun g1 s11 s12 wx => ∃ i : Nat, i + g1 = N ∧ s12 = .int .i64 (i : Int) ∧ Hid (Owns 9 w3.heap.size s11 (SVs ((encL K N b).take i)) wx) ∧ Below w3.heap.size w3 wx)
      case atStart => exact ⟨0, by omega, rfl, Owns.nil _ _ _, Below.refl _ _⟩
      case round =>
        obtain ⟨i, hig, rfl, hOi, hbi⟩ := hrel
        obtain ⟨c0, c1⟩ := HCc.out wr hbi
        cases gk with
        | zero =>
          have hz2 : ¬ ((i : Int) < (N : Int)) := by omega
          have HF : Hid (Owns 9 w.heap.size u11 (SVs (encL K N b)) wr) := by
            have := hOi.out
            rw [List.take_of_length_le (by rw [encL_length]; omega)] at this
            exact this.mono B3.size
          clear hOi
          go_wp2_with fail
          go_ret2
          exact ⟨_, rfl, HF.out, B3.trans (hbi.mono B3.size)⟩
        | succ g1 =>
          have hz2 : (i : Int) < (N : Int) := by omega
          have hi : i < N := by omega
          obtain ⟨wo, hwo⟩ : ∃ wo, wo = wr := ⟨_, rfl⟩
          subst hwo
          have hmk := makes_u8 z (by omega)
          obtain ⟨r, hr⟩ : ∃ r : Nat → Nat → Nat, Hid (r = fun n j => Fld.mul (Mx.ofVal K i j) (pad b (j * z + n))) := ⟨_, rfl⟩
          have HRb : Hid (∀ n j, r n j < 256) := fun n j => by rw [hr.out]; exact Fld.mul_lt _ _
          have HPy : Hid (payL K b i = rowN z (soF r K 0)) := by
            unfold Hid payL
            rw [← hzd.out]
            refine rowN_congr fun n hn => ?_
            unfold soF pay
            rw [if_neg (by omega), hr.out, ← hzd.out]
          have hHs : Hid (Has (wo.alloc (.cells (U8s (List.replicate z 0)) 5)) wo.heap.size (U8s (rowN z (soF r 0 0))) 5) := by
            have e : List.replicate z 0 = rowN z (soF r 0 0) := by
              rw [rowN_zero]
              refine rowN_congr fun n _ => ?_
              unfold soF; rw [if_neg (by omega)]; rfl
            unfold Hid; rw [← e]; exact Has.new wo _ _ 5 rfl
          have hBs : Below wo.heap.size wo (wo.alloc (.cells (U8s (List.replicate z 0)) 5)) := (Below.refl _ _).alloc (Nat.le_refl _) _
          have hsz := hbi.size
          have c0' : (wo.alloc (.cells (U8s (List.replicate z 0)) 5)).cell? ⟨w.heap.size, 0, none⟩ = some (.int .i64 (K : Int)) := cell_below hBs (World.block_lt_of_cell? (h := c0)) c0
          go_wp2_with fail
          generalize hgs : wo.heap.size = g at *
          go_loopg [14] K (fun g2 s14 wx => ∃ j : Nat, j + g2 = K ∧ s14 = .int .i64 (j : Int) ∧ Hid (Has wx g (U8s (rowN z (soF r j 0))) 5) ∧ Below g wo wx)
          case atStart => exact ⟨0, by omega, rfl, hHs, hBs⟩
          case round =>
            obtain ⟨j, hjg, rfl, hHj, hbj⟩ := hrel
            have hbW : Below w3.heap.size w3 wr := hbi.trans (hbj.mono hsz)
            obtain ⟨c0, c1⟩ := HCc.out wr hbW
            clear hHs hBs c0' hmk
            cases gk with
            | zero =>
              have hz3 : ¬ ((j : Int) < (K : Int)) := by omega
              have hjK : j = K := by omega
              have hszg : g ≤ wr.heap.size := by rw [← hgs]; exact hbj.size
              have hcv : (convert 31 9 (.slice (some ⟨g, 0, none⟩) z z)).run Try.prog wr = .ok (.string (ofBs (payL K b i))) wr := by
                refine conv_row ⟨_, z, by rw [HPy.out, rowN_length], by rw [HPy.out, rowN_length]; omega, payL_lt K b i, fun _ => ⟨g, 0, rfl, hHj.out.lt, fun t ht => ?_⟩⟩
                rw [HPy.out, rowN_length] at ht
                rw [Nat.zero_add, hHj.out.cell, U8s_get _ _ (by rw [rowN_length]; exact ht), hjK, ← HPy.out]
              have HT := hid (encL_take K N b i hi)
              have hlt : ((encL K N b).take i).length + 1 = i + 1 := by
                rw [List.length_take, encL_length, Nat.min_eq_left (by omega)]
              have HLT := hid hlt
              have HOa : Hid (∀ ob, Owns 9 w3.heap.size u11 (SVs ((encL K N b).take i)) (wr.alloc ob) ∧ w3.heap.size ≤ (wr.alloc ob).heap.size ∧ Below w3.heap.size w3 (wr.alloc ob)) := fun ob =>
                ⟨(hOi.out.below (by rw [hgs]; exact hbj)).alloc ob, by simp; omega, hbW.alloc hbW.size ob⟩
              clear hHj hlt
              go_wp2_with (refine wpList_appS rfl (.tmp 111) (.tmp 114) rfl w3.heap.size _ ((encL K N b).take i) (payL K b i) (i + 1) rfl (by exact (HOa.out _).1) wr.heap.size 1 rfl (by exact Has.new _ _ _ _ rfl) HLT.out (by omega) (by exact (HOa.out _).2.1) ?_; intro g7 cap7 w7 ho7 hg7 hb7; rw [HT.out] at ho7; have HO7 := hid ho7; have hB7 := (HOa.out _).2.2.trans hb7; clear ho7 hb7)
              go_roundg g1
              case measure => omega
              case rel => exact ⟨i + 1, by omega, by first | rfl | simp, HO7, hB7⟩
            | succ g2 =>
              have hz3 : (j : Int) < (K : Int) := by omega
              have hj : j < K := by omega
              obtain ⟨wc, hwc⟩ : ∃ wc, wc = wr := ⟨_, rfl⟩
              subst hwc
              have lx1 := Mx.ofVal_lt K i j
              by_cases hx0 : Mx.ofVal K i j = 0
              · have hHn : Hid (Has wc g (U8s (rowN z (soF r (j + 1) 0))) 5) := by
                  unfold Hid; rw [← soF_skip z r j (fun n => by rw [hr.out]; show Fld.mul _ _ = 0; rw [hx0, Fld.zero_mul])]; exact hHj.out
                obtain ⟨gi, oi, ci, k1, k2⟩ := HRows.out wc hbW i hi j hj
                rw [hx0] at k2
                have hz0 : (0 : Int) < (z : Int) := by omega
                clear hHj
                go_wp2_with fail
                go_loopg [15] 0 (fun g3 s15 wx => s15 = .int .i64 0 ∧ wx = wc)
                case atStart => exact ⟨rfl, rfl⟩
                case round =>
                  obtain ⟨rfl, rfl⟩ := hrel
                  go_wp2_with fail
                  go_roundg g2
                  case measure => omega
                  case rel => exact ⟨j + 1, by omega, by first | rfl | simp, hHn, hbj⟩
              · go_wp2_with fail
                go_loopg [15] z (fun g3 s15 wx => ∃ t : Nat, t + g3 = z ∧ s15 = .int .i64 (t : Int) ∧ Hid (Has wx g (U8s (rowN z (soF r j t))) 5) ∧ Below g wo wx)
                case atStart => exact ⟨0, by omega, rfl, hHj, hbj⟩
                case round =>
                  obtain ⟨t, htg, rfl, hHt, hbt⟩ := hrel
                  clear hHj
                  have hbT : Below w3.heap.size w3 wr := hbi.trans (hbt.mono hsz)
                  obtain ⟨gi, oi, ci, k1, k2⟩ := HRows.out wr hbT i hi j hj
                  cases gk with
                  | zero =>
                    have hz4 : ¬ ((t : Int) < (z : Int)) := by omega
                    have htz : t = z := by omega
                    have hHn : Hid (Has wr g (U8s (rowN z (soF r (j + 1) 0))) 5) := by
                      unfold Hid; rw [← soF_next]
                      have := hHt.out
                      rw [htz] at this; exact this
                    clear hHt htz
                    go_wp2_with fail
                    go_roundg g2
                    case measure => omega
                    case rel => exact ⟨j + 1, by omega, by first | rfl | simp, hHn, hbt⟩
                  | succ g3 =>
                    have hz4 : (t : Int) < (z : Int) := by omega
                    have ht : t < z := by omega
                    have hgl : g < wr.heap.size := hHt.out.lt
                    have hjt : j * z + t < q := by rw [hS.out]; exact at_lt hj ht
                    have es : soF r j t t = El.xs j (r t) := by unfold soF; rw [if_neg (by omega)]
                    have l0 : El.xs j (r t) < 256 := El.xs_lt (HRb.out t) j
                    have hlr : (rowN z (soF r j t)).length = z := rowN_length _ _
                    have p5 := (hHt.out.cell t).trans (U8s_get _ t (by rw [hlr]; exact ht))
                    rw [rowN_get _ _ _ ht, es] at p5
                    have hrt : r t j = Fld.mul (Mx.ofVal K i j) (pad b (j * z + t)) := by rw [hr.out]
                    have l2 := HPL.out (j * z + t)
                    have HLs : Hid (∀ W', Below wr.heap.size wr W' → (∃ y, W'.cell? ⟨g, 0 + t, none⟩ = some y) ∧ W'.frozen? ⟨g, 0 + t, none⟩ = false ∧ Has (W'.setCell ⟨g, 0 + t, none⟩ (.int .u8 ((El.xs j (r t) ^^^ Fld.mul (Mx.ofVal K i j) (pad b (j * z + t)) : Nat) : Int))) g (U8s (rowN z (soF r j (t + 1)))) 5 ∧ Below g wo (W'.setCell ⟨g, 0 + t, none⟩ (.int .u8 ((El.xs j (r t) ^^^ Fld.mul (Mx.ofVal K i j) (pad b (j * z + t)) : Nat) : Int)))) := fun W' hb => by
                      have hH' := hHt.out.below hb hgl
                      rw [Nat.zero_add, ← hrt]
                      have hS := hH'.set t (.int .u8 ((El.xs j (r t) ^^^ r t j : Nat) : Int))
                      rw [U8s_set, rowN_set, soF_set] at hS
                      exact ⟨⟨_, (hH'.cell t).trans (U8s_get _ t (by rw [hlr]; exact ht))⟩, hH'.frozen t, hS, (hbt.trans (hb.mono (Nat.le_of_lt hgl))).setCell (Nat.le_refl _) _⟩
                    have k3 := HAll.out wr hbT (j * z + t) hjt
                    have hjz : j * z ≤ 1000000000 := by omega
                    have hjzt : j * z + t ≤ 1000000000 := by omega
                    have hx1 : ((Mx.ofVal K i j : Int) != 0) = true := by simp; exact hx0
                    generalize Mx.ofVal K i j = x1 at *
                    generalize pad b (j * z + t) = x2 at *
                    generalize El.xs j (r t) = tt at *
                    have l3 := Fld.mul_lt x1 x2
                    have HCs : Hid (∀ W', Below wr.heap.size wr W' → W'.cell? ⟨g, 0 + t, none⟩ = some (.int .u8 (tt : Int)) ∧ W'.cell? ⟨gm, om + i, none⟩ = some (.slice (some ⟨gi, oi, none⟩) K ci) ∧ W'.cell? ⟨gi, oi + j, none⟩ = some (.int .u8 (x1 : Int)) ∧ W'.cell? ⟨gg, 0 + (j * z + t), none⟩ = some (.int .u8 (x2 : Int))) := fun W' hb => by
                      refine ⟨by rw [Nat.zero_add]; exact cell_below hb hgl p5, cell_below hb (World.block_lt_of_cell? (h := k1)) k1, cell_below hb (World.block_lt_of_cell? (h := k2)) k2, cell_below hb (World.block_lt_of_cell? (h := k3)) k3⟩
                    clear p5 hHt hlr es hrt k3
                    go_wp2_with fail
                    refine wp_region_last_lit (by kernel_rfl) 87 (by kernel_rfl) (by simp) (by simp) (fun W' => Below wr.heap.size wr W') (vals ([.slice (some ⟨g, 0, none⟩) z z, .int .i64 (t : Int), .slice (some ⟨g, 0, none⟩) z z, .int .i64 (t : Int), .pointer (some ⟨g, 0 + t, none⟩), .int .u8 (tt : Int), .slice (some ⟨gm, om, none⟩) N cm, .int .i64 (i : Int), .pointer (some ⟨gm, om + i, none⟩), .slice (some ⟨gi, oi, none⟩) K ci, .int .i64 (j : Int), .pointer (some ⟨gi, oi + j, none⟩), .int .u8 (x1 : Int), .slice (some ⟨gg, 0, none⟩) q cp, .int .i64 (j : Int), .int .i64 (z : Int), .int .i64 ((j * z : Nat) : Int), .int .i64 (t : Int), .int .i64 ((j * z + t : Nat) : Int), .pointer (some ⟨gg, 0 + (j * z + t), none⟩), .int .u8 (x2 : Int), .int .u8 ((Fld.mul x1 x2 : Nat) : Int), .int .u8 ((tt ^^^ Fld.mul x1 x2 : Nat) : Int), .pointer (some ⟨g, 0 + t, none⟩)] : List Value)) (Below.refl _ _).drew
                      ⟨fun a' W' hC hF => st_val 87 _ rfl (rn_move rfl (hF 13 (by decide))) hC,
                        fun a' W' hC hF => st_val 88 _ rfl (rn_move rfl (hF 15 (by decide))) hC,
                        fun a' W' hC hF => st_val 89 _ rfl (rn_move rfl (hF 13 (by decide))) hC,
                        fun a' W' hC hF => st_val 90 _ rfl (rn_move rfl (hF 15 (by decide))) hC,
                        fun a' W' hC hF => st_val 91 _ rfl (rn_at31 rfl (hF 89 (by decide)) (hF 90 (by decide)) ht) hC,
                        fun a' W' hC hF => st_val 92 _ rfl (rn_load5 rfl (hF 91 (by decide)) (HCs.out W' hC).1) hC,
                        fun a' W' hC hF => st_val 93 _ rfl (rn_move rfl (hF 9 (by decide))) hC,
                        fun a' W' hC hF => st_val 94 _ rfl (rn_move rfl (hF 12 (by decide))) hC,
                        fun a' W' hC hF => st_val 95 _ rfl (rn_at46 rfl (hF 93 (by decide)) (hF 94 (by decide)) hi) hC,
                        fun a' W' hC hF => st_val 96 _ rfl (rn_load31 rfl (hF 95 (by decide)) (HCs.out W' hC).2.1) hC,
                        fun a' W' hC hF => st_val 97 _ rfl (rn_move rfl (hF 14 (by decide))) hC,
                        fun a' W' hC hF => st_val 98 _ rfl (rn_at31 rfl (hF 96 (by decide)) (hF 97 (by decide)) hj) hC,
                        fun a' W' hC hF => st_val 99 _ rfl (rn_load5 rfl (hF 98 (by decide)) (HCs.out W' hC).2.2.1) hC,
                        fun a' W' hC hF => st_val 100 _ rfl (rn_move rfl (hF 8 (by decide))) hC,
                        fun a' W' hC hF => st_val 101 _ rfl (rn_move rfl (hF 14 (by decide))) hC,
                        fun a' W' hC hF => st_val 102 _ rfl (rn_move rfl (hF 6 (by decide))) hC,
                        fun a' W' hC hF => st_val 103 _ rfl (rn_mulI rfl (hF 101 (by decide)) (hF 102 (by decide)) hjz) hC,
                        fun a' W' hC hF => st_val 104 _ rfl (rn_move rfl (hF 15 (by decide))) hC,
                        fun a' W' hC hF => st_val 105 _ rfl (rn_addI rfl (hF 103 (by decide)) (hF 104 (by decide)) hjzt) hC,
                        fun a' W' hC hF => st_val 106 _ rfl (rn_at31 rfl (hF 100 (by decide)) (hF 105 (by decide)) hjt) hC,
                        fun a' W' hC hF => st_val 107 _ rfl (rn_load5 rfl (hF 106 (by decide)) (HCs.out W' hC).2.2.2) hC,
                        fun a' W' hC hF => st_call 108 _ 26 _ rfl (rn_call2 rfl rfl (hF 99 (by decide)) (hF 107 (by decide)) (enter26 _)) ((refMul_any x1 x2 lx1 l2 W').mono fun e w'' h => ⟨h.1, by rw [h.2]; exact hC⟩),
                        fun a' W' hC hF => st_val 109 _ rfl (rn_xor rfl (hF 92 (by decide)) (hF 108 (by decide)) l0 l3) hC,
                        fun a' W' hC hF => st_val 110 _ rfl (rn_at31 rfl (hF 87 (by decide)) (hF 88 (by decide)) ht) hC,
                        ?_⟩
                    intro W' hC
                    generalize hA : puts _ _ _ _ = A
                    have hx1 : A.eval (.tmp 110) = .pointer (some ⟨g, 0 + t, none⟩) := by rw [← hA]; exact ev_puts 24 23 rfl (by simp) (by decide)
                    have hy1 : A.eval (.tmp 109) = .int .u8 ((tt ^^^ Fld.mul x1 x2 : Nat) : Int) := by rw [← hA]; exact ev_puts 24 22 rfl (by simp) (by decide)
                    obtain ⟨⟨y1, u1⟩, u2, u3⟩ := HLs.out W' hC
                    refine st_store rfl (rn_store5 rfl hx1 hy1 u1 u2) ?_
                    rw [← hA]
                    clear hx1 hy1 hA A u1 u2
                    rw [Nat.zero_add] at u3
                    have HL' : Hid _ := u3
                    rw [Nat.zero_add]
                    clear u3
                    simp only [List.length_cons, List.length_nil, Nat.reduceAdd, Nat.reduceSub, puts, Act.put, vals, List.setIfInBounds_toArray, List.set_cons_succ, List.set_cons_zero, List.getD_cons_succ, List.getD_cons_zero]
                    go_wp2_with fail
                    go_roundg g3
                    case measure => omega
                    case rel => exact ⟨t + 1, by omega, by first | rfl | simp, HL'.out.1, HL'.out.2⟩
end Go.Proofs.Ytfbjpgcgdhhfnaa
