/- Lists of strings held against each other; the document's Encode, whatever is handed in. -/
import Derived.Test.YtfbjpgcgdhhfnaaCREnc
namespace Go.Proofs.Ytfbjpgcgdhhfnaa
open Go.RowKit
theorem rn_at28 {ev : Operand → Value} {o : Oper} {w : World} {x y : Operand} {g q n c k : Nat} (ho : o.op = .indexAddr 28 x y) (hx : ev x = .slice (some ⟨g, q, none⟩) n c) (hy : ev y = .int .i64 (k : Int)) (h : k < n) : (execOp ev o).run Try.prog w = .ok (.value (.pointer (some ⟨g, q + k, none⟩))) w := by
  have h1 : (k : Int) < (n : Int) := by omega
  simp [execOp, ho, hx, hy, go_sem, h1]
theorem rn_load9 {ev : Operand → Value} {o : Oper} {w : World} {x : Operand} {g k : Nat} {v : Value} (ho : o.op = .load 9 x) (hx : ev x = .pointer (some ⟨g, k, none⟩)) (hc : w.cell? ⟨g, k, none⟩ = some v) : (execOp ev o).run Try.prog w = .ok (.value v) w := by
  simp [execOp, ho, hx, go_sem, hc]
theorem str_beq {a b : List Nat} (ha : ∀ x ∈ a, x < 256) (hb : ∀ x ∈ b, x < 256) : ((ofBs a).toList == (ofBs b).toList) = decide (a = b) := by
  by_cases h : a = b
  · subst h; rw [decide_eq_true rfl]; exact str_eq _
  · rw [decide_eq_false h]; exact str_ne ha hb h
theorem rn_neqS {ev : Operand → Value} {o : Oper} {w : World} {x y : Operand} {a b : List Nat} (ho : o.op = .binOp .neq 9 x y 9) (hx : ev x = .string (ofBs a)) (hy : ev y = .string (ofBs b)) (ha : ∀ x ∈ a, x < 256) (hb : ∀ x ∈ b, x < 256) : (execOp ev o).run Try.prog w = .ok (.value (.bool (!decide (a = b)))) w := by
  have e := str_beq ha hb
  simp [execOp, ho, hx, hy, go_sem, e]
set_option maxRecDepth 20000 in
theorem same_any (v1 v2 : Value) (l1 l2 : List (List Nat)) (w : World) (h1 : Strs w v1 l1) (h2 : Strs w v2 l2) :
    Calls Try.prog 13 #[v1, v2] w fun e w' => e = .returned (.bool (decide (l1 = l2))) ∧ Below w.heap.size w w' := by
  have hx1 := hid h1.lt
  have hx2 := hid h2.lt
  obtain ⟨a1, c1, rfl, hl1, _, hc1⟩ := h1
  obtain ⟨a2, c2, rfl, hl2, _, hc2⟩ := h2
  by_cases hl : l1.length = l2.length
  · have HE : Hid (∀ j, j < l1.length → l1.getD j [] = l2.getD j []) → l1 = l2 := fun hh => ext_getD [] hl hh.out
    rw [← hl] at hc2 hl2 ⊢
    clear hl
    generalize hn : l1.length = n at *
    have e0 : ((n : Int) != (n : Int)) = false := by simp
    go_enter Try.func13, Try.ntmps13
    go_wp2_with fail
    go_loopw [5] (fun vi wr => ∃ k : Nat, k ≤ n ∧ vi = .int .i64 (k : Int) ∧ Hid (∀ j, j < k → l1.getD j [] = l2.getD j []) ∧ Below w.heap.size w wr) (fun vi _ => n - (intOf vi).toNat)
    case atStart => exact ⟨0, by omega, rfl, fun j hj => absurd hj (by omega), Below.refl _ _⟩
    case round =>
      obtain ⟨k, hk, rfl, hj, hb⟩ := hrel
      by_cases hlt : k < n
      · obtain ⟨g1, o1, rfl, hg1, hd1⟩ := hc1 (by omega)
        obtain ⟨g2, o2, rfl, hg2, hd2⟩ := hc2 (by omega)
        have k1 := cell_below hb hg1 (hd1 k hlt)
        have k2 := cell_below hb hg2 (hd2 k hlt)
        have d0 : (k : Int) < (n : Int) := by omega
        have x1 := hid (hx1.out k)
        have x2 := hid (hx2.out k)
        generalize hp1 : l1.getD k [] = p1 at *
        generalize hp2 : l2.getD k [] = p2 at *
        have HCs : Hid (∀ W', Below wr.heap.size wr W' → W'.cell? ⟨g1, o1 + k, none⟩ = some (.string (ofBs p1)) ∧ W'.cell? ⟨g2, o2 + k, none⟩ = some (.string (ofBs p2))) := fun W' hW =>
          ⟨cell_below hW (World.block_lt_of_cell? (h := k1)) k1, cell_below hW (World.block_lt_of_cell? (h := k2)) k2⟩
        clear k1 k2 hc1 hc2 hd1 hd2
        go_wp2_with fail
        refine wp_region_last_lit (by kernel_rfl) 17 (by kernel_rfl) (by simp) (by simp) (fun W' => Below wr.heap.size wr W') (vals ([.slice (some ⟨g1, o1, none⟩) n c1, .int .i64 (k : Int), .pointer (some ⟨g1, o1 + k, none⟩), .string (ofBs p1), .slice (some ⟨g2, o2, none⟩) n c2, .int .i64 (k : Int), .pointer (some ⟨g2, o2 + k, none⟩), .string (ofBs p2)] : List Value)) (Below.refl _ _).drew
          ⟨fun a' W' hC hF => st_val 17 _ rfl (rn_move rfl (hF 0 (by decide))) hC,
           fun a' W' hC hF => st_val 18 _ rfl (rn_move rfl (hF 5 (by decide))) hC,
           fun a' W' hC hF => st_val 19 _ rfl (rn_at28 rfl (hF 17 (by decide)) (hF 18 (by decide)) hlt) hC,
           fun a' W' hC hF => st_val 20 _ rfl (rn_load9 rfl (hF 19 (by decide)) (HCs.out W' hC).1) hC,
           fun a' W' hC hF => st_val 21 _ rfl (rn_move rfl (hF 1 (by decide))) hC,
           fun a' W' hC hF => st_val 22 _ rfl (rn_move rfl (hF 5 (by decide))) hC,
           fun a' W' hC hF => st_val 23 _ rfl (rn_at28 rfl (hF 21 (by decide)) (hF 22 (by decide)) hlt) hC,
           fun a' W' hC hF => st_val 24 _ rfl (rn_load9 rfl (hF 23 (by decide)) (HCs.out W' hC).2) hC,
           ?_⟩
        intro W' hC
        generalize hA : puts _ _ _ _ = A
        have hy1 : A.eval (.tmp 20) = .string (ofBs p1) := by rw [← hA]; exact ev_puts 8 3 rfl (by simp) (by decide)
        have hy2 : A.eval (.tmp 24) = .string (ofBs p2) := by rw [← hA]; exact ev_puts 8 7 rfl (by simp) (by decide)
        refine st_valLast _ (rn_neqS rfl hy1 hy2 x1.out x2.out) ?_
        rw [← hA]
        clear hy1 hy2 hA A
        have hB' := belowCall hb hC
        clear HCs hC
        simp only [List.length_cons, List.length_nil, Nat.reduceAdd, Nat.reduceSub, puts, Act.put, vals, List.setIfInBounds_toArray, List.set_cons_succ, List.set_cons_zero, List.getD_cons_succ, List.getD_cons_zero]
        by_cases he : p1 = p2
        · have de : decide (p1 = p2) = true := decide_eq_true he
          rw [de]
          go_wp2_with fail
          exact ⟨⟨k + 1, by omega, by simp, fun j hj' => by
            by_cases hjk : j < k
            · exact hj.out j hjk
            · obtain rfl : j = k := by omega
              rw [hp1, hp2, he], hB'⟩, by simp [intOf]; omega⟩
        · have de : decide (p1 = p2) = false := decide_eq_false he
          have hr : decide (l1 = l2) = false := decide_eq_false fun e => he (by rw [← hp1, ← hp2, e])
          rw [de]
          go_wp2_with fail
          go_ret
          exact ⟨by rw [hr]; rfl, hB'⟩
      · obtain rfl : k = n := by omega
        have hr : decide (l1 = l2) = true := decide_eq_true (HE hj)
        go_wp2_with fail
        go_ret
        exact ⟨by rw [hr]; rfl, hb⟩
  · have hr : decide (l1 = l2) = false := decide_eq_false fun e => hl (by rw [e])
    have e0 : ((l1.length : Int) != (l2.length : Int)) = true := by simp; omega
    rw [hr]
    clear hc1 hc2
    go_enter Try.func13, Try.ntmps13
    go_wp2_with fail
    go_ret
    exact ⟨rfl, Below.refl _ _⟩
theorem encL_lt (K N : Nat) (b : List Nat) : ∀ i x, x ∈ (encL K N b).getD i [] → x < 256 := fun i x hx => by
  by_cases hi : i < N
  · rw [encL_get _ _ _ _ hi] at hx; exact payL_lt K b i x hx
  · rw [List.getD_eq_getElem?_getD, List.getElem?_eq_none (by rw [encL_length]; omega)] at hx; simp at hx
theorem refEncode_any (K N : Int) (b : List Nat) (w : World) (hb : ∀ x ∈ b, x < 256) :
    Calls Try.prog 12 #[cv K N, .string (ofBs b)] w fun e w' => ∃ r, e = .returned (.tuple #[r, .int .i64 (errE K N b)]) ∧ Strs w' r (ansE K N b) ∧ Below w.heap.size w w' := by
  by_cases hok : okE K N b = true
  · have hok' := hok
    unfold okE at hok'
    rw [Bool.and_eq_true] at hok'
    have hl : b.length ≤ 32768 := of_decide_eq_true hok'.2
    have e1 : errE K N b = 0 ∧ ansE K N b = encL K.toNat N.toNat b := by
      unfold errE ansE; rw [hok, hok'.1, if_pos rfl, if_pos rfl, if_pos hl]; exact ⟨rfl, rfl⟩
    obtain ⟨k, n, rfl, rfl, h1, h2, h3⟩ := mayC_facts hok'.1
    rw [e1.1, e1.2]
    refine (refEncode_ok k n b w h1 h2 h3 hl hb).mono ?_
    rintro e w' ⟨r, rfl, hT, hB⟩
    exact ⟨_, rfl, hT.strs (encL_lt _ _ _) (by rw [encL_length]; omega), hB⟩
  · have he : errE K N b ≠ 0 ∧ ansE K N b = [] := by
      unfold okE at hok
      unfold errE ansE okE
      cases hm : Mx.mayC K N with
      | false => simp
      | true =>
        rw [hm] at hok
        have hl : ¬ b.length ≤ 32768 := by simpa using hok
        simp [hl]
    have HE := hid he
    have bA : Below w.heap.size w (w.alloc (.cells #[.int .i64 K, .int .i64 N] 24)) := (Below.refl _ _).alloc (Nat.le_refl _) _
    have hsz := refSize_any K N (b.length : Int) (w.alloc (.cells #[.int .i64 K, .int .i64 N] 24))
    rw [errZ_len] at hsz
    have hbs : (ofBs b).size = b.length := ofBs_size b
    have hnz : (errE K N b != 0) = true := by simp [he.1]
    generalize errE K N b = er at *
    generalize ansZ K N (b.length : Int) = az at *
    clear he hok
    unfold cv at hsz ⊢
    go_enter Try.func12, Try.ntmps12
    go_wp2_with fail
    refine hsz.mono ?_
    rintro e w1 ⟨rfl, b1⟩
    go_wp2_with fail
    go_ret2
    exact ⟨_, rfl, by rw [HE.out.2]; exact Strs.nil _, belowCall bA b1⟩
theorem encodes_walk (K N n : Int) (b : List Nat) (w : World) (hb : ∀ x ∈ b, x < 256) (hl63 : b.length ≤ 9223372036854775807) :
    Calls Try.prog 4 #[cv K N, .string (ofBs b), .int .i64 n] w fun e w' => e = .returned (.bool true) ∧ Below w.heap.size w w' := by
  have bA : Below w.heap.size w (w.alloc (.cells #[.int .i64 K, .int .i64 N] 24)) := (Below.refl _ _).alloc (Nat.le_refl _) _
  have hcell : Has (w.alloc (.cells #[.int .i64 K, .int .i64 N] 24)) w.heap.size #[.int .i64 K, .int .i64 N] 24 := Has.new w w.heap.size _ 24 rfl
  have hbs : (ofBs b).size = b.length := ofBs_size b
  have HEn : Hid (∀ W, _) := fun W => encode_any K N b W hb
  have HRe : Hid (∀ W, _) := fun W => refEncode_any K N b W hb
  have HSi : Hid (∀ W, _) := fun W => size_any K N n W
  have HRs : Hid (∀ W, _) := fun W => refSize_any K N n W
  by_cases hg : 3000 < b.length ∧ b.length ≤ 32768
  · have d1 : decide ((3000 : Int) < (b.length : Int)) = true := by simp; omega
    have d2 : decide ((b.length : Int) ≤ 32768) = true := by simp; omega
    unfold cv
    go_enter Try.func4, Try.ntmps4
    go_wp2_with fail
    go_ret
    exact ⟨rfl, bA⟩
  · have HG : Hid ((decide ((3000 : Int) < (b.length : Int)) = false) ∨ (decide ((3000 : Int) < (b.length : Int)) = true ∧ decide ((b.length : Int) ≤ 32768) = false)) := by
      by_cases h1 : 3000 < b.length
      · exact .inr ⟨by simp; omega, by simp; omega⟩
      · exact .inl (by simp; omega)
    unfold cv at HEn HRe HSi HRs ⊢
    clear hg
    rcases HG.out with d1 | ⟨d1, d2⟩
    all_goals
      clear HG
      go_enter Try.func4, Try.ntmps4
      go_wp2_with fail
      refine (HEn.out _).mono ?_
      rintro e w1 ⟨r1, rfl, hs1, b1⟩
      have B1 := belowCall bA b1
      have hC1 := hcell.below b1 (by simp)
      have c0 : w1.cell? ⟨w.heap.size, 0, none⟩ = some (.int .i64 K) := hC1.cell 0
      have c1 : w1.cell? ⟨w.heap.size, 1, none⟩ = some (.int .i64 N) := hC1.cell 1
      have hcs1 := hC1.lt
      have HS1 := hid hs1
      clear hs1 b1
      go_wp2_with fail
      refine (HRe.out _).mono ?_
      rintro e w2 ⟨r2, rfl, hs2, b2⟩
      have HS2 := hid (HS1.out.below b2)
      have B2 := belowCall B1 b2
      have hC2 := hC1.below b2 hcs1
      have hcs2 := hC2.lt
      have HR2 := hid hs2
      clear hs2 b2 c0 c1
      go_wp2_with fail
      refine (same_any r1 r2 _ _ w2 HS2.out HR2.out).mono ?_
      rintro e w3 ⟨rfl, b3⟩
      rw [decide_eq_true (rfl : ansE K N b = ansE K N b)]
      have B3 := belowCall B2 b3
      have hC3 := hC2.below b3 hcs2
      have hcs3 := hC3.lt
      have c0 : w3.cell? ⟨w.heap.size, 0, none⟩ = some (.int .i64 K) := hC3.cell 0
      have c1 : w3.cell? ⟨w.heap.size, 1, none⟩ = some (.int .i64 N) := hC3.cell 1
      have ee : (errE K N b != errE K N b) = false := by simp
      clear b3
      go_wp2_with fail
      refine (HSi.out _).mono ?_
      rintro e w4 ⟨rfl, b4⟩
      have B4 := belowCall B3 b4
      have hC4 := hC3.below b4 hcs3
      have hcs4 := hC4.lt
      clear c0 c1 b4
      have c0 : w4.cell? ⟨w.heap.size, 0, none⟩ = some (.int .i64 K) := hC4.cell 0
      have c1 : w4.cell? ⟨w.heap.size, 1, none⟩ = some (.int .i64 N) := hC4.cell 1
      go_wp2_with fail
      refine (HRs.out _).mono ?_
      rintro e w5 ⟨rfl, b5⟩
      have B5 := belowCall B4 b5
      have e1 : (ansZ K N n == ansZ K N n) = true := by simp
      have e2 : (errZ K N n == errZ K N n) = true := by simp
      clear b5
      go_wp2_with fail
      go_ret
      exact ⟨rfl, B5⟩
end Go.Proofs.Ytfbjpgcgdhhfnaa
