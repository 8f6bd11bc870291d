/- What the statements ask of products: one, times. -/
import Derived.Test.YtjgjcbgeekfkkaaRTurn
namespace Go.Proofs.Ytjgjcbgeekfkkaa
open Go.RowKit
/-- rows as long as one another -/
def Rect (m : List (List Nat)) (R W : Nat) : Prop := m.length = R ∧ ∀ i, i < R → (m.getD i []).length = W
theorem Mat.rect {w : World} {v : Value} {m : List (List Nat)} {R W : Nat} (h : Mat w v m) (hr : Rect m R W) (hR : 0 < R) (hW : 0 < W) : ∃ g o cap, v = .slice (.some ⟨g, o, none⟩) R cap ∧ g < w.heap.size ∧
    ∀ i, i < R → ∃ gi oi ci, gi < w.heap.size ∧ w.cell? ⟨g, o + i, none⟩ = .some (.slice (.some ⟨gi, oi, none⟩) W ci) ∧ ∀ j, j < W → w.cell? ⟨gi, oi + j, none⟩ = .some (.int .u8 (at2 m i j : Int)) ∧ at2 m i j < 256 := by
  have hby := h.byt
  obtain ⟨h1, h2⟩ := hr
  obtain ⟨g, o, cap, e, _, hg, hc⟩ := h.some (by omega)
  rw [h1] at e
  refine ⟨g, o, cap, e, hg, fun i hi => ?_⟩
  obtain ⟨r, c1, hr⟩ := hc i (by omega)
  obtain ⟨gi, oi, ci, rfl, _, _, k1, k2⟩ := hr.some (by rw [h2 i hi]; exact hW)
  rw [h2 i hi] at c1 k2
  exact ⟨gi, oi, ci, k1, c1, fun j hj => ⟨k2 j hj, hby _ _⟩⟩
theorem one_any (v : Value) (m : List (List Nat)) (R W : Nat) (w : World) (h : Mat w v m) (hr : Rect m R W) (hR : 0 < R) (hR6 : R ≤ 1000000) (hW6 : W ≤ 1000000) (hW : 0 < W) (hd : ∀ i, i < R → ∀ j, j < W → at2 m i j = if i = j then 1 else 0) :
    Calls Try.prog 20 #[v] w fun e w' => e = .returned (.bool true) ∧ w' = w := by
  obtain ⟨g, o, cap, rfl, hg, hrows⟩ := h.rect hr hR hW
  have HRw := hid hrows
  have HD := hid hd
  clear hrows hd h hr
  go_enter Try.func20, Try.ntmps20
  go_wp2_with fail
  go_loopg [3] R (fun g1 s3 wx => ∃ i : Nat, i + g1 = R ∧ s3 = .int .i64 (i : Int) ∧ wx = w)
  case atStart => exact ⟨0, by omega, rfl, rfl⟩
  case round =>
    obtain ⟨i, hig, rfl, rfl⟩ := hrel
    cases gk with
    | zero =>
      have hz : ¬ ((i : Int) < (R : Int)) := by omega
      go_wp2_with fail
      go_ret
      exact ⟨rfl, rfl⟩
    | succ g1 =>
      have hz : (i : Int) < (R : Int) := by omega
      have hi : i < R := by omega
      obtain ⟨gi, oi, ci, _, q1, q2⟩ := HRw.out i hi
      have Q2 := hid q2
      have HDi := hid (HD.out i hi)
      clear q2
      obtain ⟨wo, hwo⟩ : ∃ wo, wo = wr := ⟨_, rfl⟩
      subst hwo
      go_wp2_with fail
      go_loopg [4] W (fun g2 s4 wx => ∃ j : Nat, j + g2 = W ∧ s4 = .int .i64 (j : Int) ∧ wx = wo)
      case atStart => exact ⟨0, by omega, rfl, rfl⟩
      case round =>
        obtain ⟨j, hjg, rfl, rfl⟩ := hrel
        cases gk with
        | zero =>
          have hz2 : ¬ ((j : Int) < (W : Int)) := by omega
          go_wp2_with fail
          go_roundg g1
          case measure => omega
          case rel => exact ⟨i + 1, by omega, by first | rfl | simp, rfl⟩
        | succ g2 =>
          have hz2 : (j : Int) < (W : Int) := by omega
          have hj : j < W := by omega
          obtain ⟨c1, _⟩ := Q2.out j hj
          have hv := HDi.out j hj
          by_cases hij : i = j
          · have e0 : ((i : Int) == (j : Int)) = true := by rw [beq_iff_eq]; omega
            rw [if_pos hij] at hv
            rw [hv] at c1
            have c1' : wr.cell? ⟨gi, oi + j, none⟩ = some (.int .u8 1) := c1
            clear hv c1 hij
            go_wp2_with fail
            go_roundg g2
            case measure => omega
            case rel => exact ⟨j + 1, by omega, by first | rfl | simp, rfl⟩
          · have e0 : ((i : Int) == (j : Int)) = false := by rw [beq_eq_false_iff_ne]; omega
            rw [if_neg hij] at hv
            rw [hv] at c1
            have c1' : wr.cell? ⟨gi, oi + j, none⟩ = some (.int .u8 0) := c1
            clear hv c1
            go_wp2_with fail
            go_roundg g2
            case measure => omega
            case rel => exact ⟨j + 1, by omega, by first | rfl | simp, rfl⟩
def mulF (K : Nat) (a b : El.M) : El.M := fun i c => El.xs K (fun k => Fld.mul (a i k) (b k c))
def rowN (C : Nat) (f : Nat → Nat) : List Nat := (List.range C).map f
theorem rowN_length (C : Nat) (f : Nat → Nat) : (rowN C f).length = C := by simp [rowN]
theorem rowN_set (C c x : Nat) (f : Nat → Nat) : (rowN C f).set c x = rowN C (fun j => if j = c then x else f j) := by
  apply ext_getD 0
  · simp [rowN]
  · intro j hj
    simp only [List.length_set, rowN_length] at hj
    unfold rowN
    rw [range_getD _ _ _ hj, List.getD_eq_getElem?_getD, List.getElem?_set]
    by_cases h : c = j
    · subst h; rw [if_pos rfl, if_pos (by simp; exact hj), if_pos rfl]; rfl
    · rw [if_neg h, if_neg (by omega), ← List.getD_eq_getElem?_getD, range_getD _ _ _ hj]
theorem rowN_congr {C : Nat} {f f' : Nat → Nat} (h : ∀ j, j < C → f j = f' j) : rowN C f = rowN C f' := List.map_congr_left fun j hj => h j (List.mem_range.1 hj)
theorem rowN_zero (C : Nat) : List.replicate C 0 = rowN C (fun _ => 0) := by unfold rowN; rw [List.map_const']; simp
theorem rowN_get (C : Nat) (f : Nat → Nat) (j : Nat) (hj : j < C) : (rowN C f).getD j 0 = f j := range_getD _ _ _ hj
/-- what stands in a product's row behind so many steps -/
def sofar (K : Nat) (r : Nat → Nat → Nat) (c k : Nat) : Nat → Nat := fun j => if j < c then El.xs K (r j) else if j = c then El.xs k (r j) else 0
set_option maxRecDepth 20000 in
set_option maxHeartbeats 4000000 in
theorem times_any (va vb : Value) (ma mb : List (List Nat)) (R K C : Nat) (w : World) (ha : Mat w va ma) (hb : Mat w vb mb) (hra : Rect ma R K) (hrb : Rect mb K C) (hR : 0 < R) (hK : 0 < K) (hC : 0 < C) (hR6 : R ≤ 100000) (hK6 : K ≤ 100000) (hC6 : C ≤ 100000) :
    Calls Try.prog 21 #[va, vb] w fun e w' => ∃ r, e = .returned r ∧ Mat w' r (rowsOf R (fun _ => C) (mulF K (at2 ma) (at2 mb))) ∧ Below w.heap.size w w' := by
  obtain ⟨ga, oa, ca, rfl, hga, hrowsA⟩ := ha.rect hra hR hK
  obtain ⟨gb, ob, cb, rfl, hgb, hrowsB⟩ := hb.rect hrb hK hC
  have HA := hid hrowsA
  have HB := hid hrowsB
  obtain ⟨g0, o0, c0, _, k0, _⟩ := hrowsB 0 hK
  rw [Nat.add_zero] at k0
  have b0 : (0 : Int) < (K : Int) := by omega
  clear ha hb hrowsA hrowsB
  have hmk := makes_u8 C (by omega)
  go_enter Try.func21, Try.ntmps21
  go_wp2_with fail
  go_loopg [5, 6] R (fun g1 s5 s6 wx => ∃ i : Nat, i + g1 = R ∧ s6 = .int .i64 (i : Int) ∧ Hid (OW w.heap.size s5 i (fun _ => C) (mulF K (at2 ma) (at2 mb)) wx) ∧ Below w.heap.size w wx)
  case atStart => exact ⟨0, by omega, rfl, OW.nil _ _ _ _, Below.refl _ _⟩
  case round =>
    obtain ⟨i, hig, rfl, hO, hbx⟩ := hrel
    cases gk with
    | zero =>
      have hz : ¬ ((i : Int) < (R : Int)) := by omega
      have hiR : i = R := by omega
      have HF0 := (hO.out.newM (by omega)).mat
      rw [hiR] at HF0
      have HF := hid HF0
      clear HF0
      clear hO
      go_wp2_with fail
      go_ret
      exact ⟨_, rfl, HF.out, hbx⟩
    | succ g1 =>
      have hz : (i : Int) < (R : Int) := by omega
      have hi : i < R := by omega
      obtain ⟨gi, oi, ci, qa1, qa2, qa3⟩ := HA.out i hi
      have QA3 := hid qa3
      clear qa3
      have hsz := hbx.size
      obtain ⟨wo, hwo⟩ : ∃ wo, wo = wr := ⟨_, rfl⟩
      subst hwo
      have k0' := cell_below hbx hgb k0
      have hHs : Hid (Has (wo.alloc (.cells (U8s (List.replicate C 0)) 5)) wo.heap.size (U8s (rowN C (sofar K (fun j k => Fld.mul (at2 ma i k) (at2 mb k j)) 0 0))) 5) := by
        have e : List.replicate C 0 = rowN C (sofar K (fun j k => Fld.mul (at2 ma i k) (at2 mb k j)) 0 0) := by
          rw [rowN_zero]
          refine rowN_congr fun j _ => ?_
          unfold sofar
          rw [if_neg (by omega)]
          by_cases h : j = 0
          · rw [if_pos h]; rfl
          · rw [if_neg h]
        unfold Hid
        rw [← e]; exact Has.new wo _ _ 5 rfl
      have hBs : Below wo.heap.size wo (wo.alloc (.cells (U8s (List.replicate C 0)) 5)) := (Below.refl _ _).alloc (Nat.le_refl _) _
      obtain ⟨r, hr⟩ : ∃ r : Nat → Nat → Nat, Hid (r = fun j k => Fld.mul (at2 ma i k) (at2 mb k j)) := ⟨_, rfl⟩
      rw [← hr.out] at hHs
      have HRb : Hid (∀ j k, r j k < 256) := fun j k => by rw [hr.out]; exact Fld.mul_lt _ _
      have HRe : Hid (∀ j k, r j k = Fld.mul (at2 ma i k) (at2 mb k j)) := fun j k => by rw [hr.out]
      have HRf : Hid (∀ j, mulF K (at2 ma) (at2 mb) i j = El.xs K (r j)) := fun j => by rw [hr.out]; rfl
      go_wp2_with fail
      generalize hgs : wo.heap.size = g at *
      go_loopg [8] C (fun g2 s8 wx => ∃ c : Nat, c + g2 = C ∧ s8 = .int .i64 (c : Int) ∧ Hid (Has wx g (U8s (rowN C (sofar K r c 0))) 5) ∧ Below g wo wx)
      case atStart => exact ⟨0, by omega, rfl, hHs, hBs⟩
      case round =>
        obtain ⟨c, hcg, rfl, hH, hbc⟩ := hrel
        clear hHs hBs
        cases gk with
        | zero =>
          have hz2 : ¬ ((c : Int) < (C : Int)) := by omega
          have hcC : c = C := by omega
          have hlr : (rowN C (sofar K r c 0)).length = C := rowN_length _ _
          have ho := hid (Owns.ofHas (base := g) hH.out (Nat.le_refl _) (by rw [hlr]; omega))
          rw [hlr] at ho
          have hxr : Hid (∀ x ∈ rowN C (sofar K r c 0), x < 256) := fun x hx => by
            unfold rowN at hx
            simp only [List.mem_map] at hx
            obtain ⟨j, _, rfl⟩ := hx
            unfold sofar
            split
            · exact El.xs_lt (HRb.out j) _
            · split
              · exact El.xs_lt (HRb.out j) _
              · decide
          have hFr : Hid (∀ j, j < (rowN C (sofar K r c 0)).length → mulF K (at2 ma) (at2 mb) i j = (rowN C (sofar K r c 0)).getD j 0) := fun j hj => by
            rw [hlr] at hj
            rw [rowN_get _ _ _ hj, HRf.out]; unfold sofar; rw [if_pos (by omega)]
          have HLR := hid hlr
          have hszr : g ≤ wr.heap.size := by rw [← hgs]; exact hbc.size
          have hbc' : Below wo.heap.size wo wr := by rw [hgs]; exact hbc
          have hbA : Below wo.heap.size wo (wr.alloc (.cells #[.slice (some ⟨g, 0, none⟩) C C] 23)) := hbc'.alloc (by rw [hgs]; exact hszr) _
          have ho' : Hid (Owns 5 wo.heap.size (.slice (some ⟨g, 0, none⟩) C C) (U8s (rowN C (sofar K r c 0))).toList wr) := by unfold Hid; rw [hgs]; exact ho.out
          have hbase : w.heap.size ≤ wo.heap.size := by rw [hgs]; exact hsz
          clear hH hlr
          go_wp2_with (refine wpList_push (w0 := wo) rfl (.tmp 56) (.tmp 58) rfl w.heap.size _ i (fun _ => C) (mulF K (at2 ma) (at2 mb)) rfl hO.out hbA hbase _ (rowN C (sofar K r c 0)) (by exact ho'.out.alloc _) hxr.out (by rw [HLR.out]; omega) HLR.out.symm hFr.out (by omega) wr.heap.size 1 rfl (by exact Has.new _ _ _ _ rfl) ?_; intro v6 w7 hO7 hb7)
          go_roundg g1
          case measure => omega
          case rel => exact ⟨i + 1, by omega, by first | rfl | simp, hO7, (hbx.trans (hbA.mono hbase)).trans hb7⟩
        | succ g2 =>
          have hz2 : (c : Int) < (C : Int) := by omega
          have hc : c < C := by omega
          obtain ⟨wc, hwc⟩ : ∃ wc, wc = wr := ⟨_, rfl⟩
          subst hwc
          go_wp2_with fail
          go_loopg [9] K (fun g3 s9 wx => ∃ k : Nat, k + g3 = K ∧ s9 = .int .i64 (k : Int) ∧ Hid (Has wx g (U8s (rowN C (sofar K r c k))) 5) ∧ Below g wo wx)
          case atStart => exact ⟨0, by omega, rfl, hH, hbc⟩
          case round =>
            obtain ⟨k, hkg, rfl, hHk, hbk⟩ := hrel
            clear hH hbc
            cases gk with
            | zero =>
              have hz3 : ¬ ((k : Int) < (K : Int)) := by omega
              have hkK : k = K := by omega
              have hHn : Hid (Has wr g (U8s (rowN C (sofar K r (c + 1) 0))) 5) := by
                have e : rowN C (sofar K r (c + 1) 0) = rowN C (sofar K r c k) := rowN_congr fun j _ => by
                  unfold sofar
                  by_cases h1 : j < c
                  · rw [if_pos h1, if_pos (by omega)]
                  · rw [if_neg h1]
                    by_cases h2 : j = c
                    · rw [if_pos h2, if_pos (by omega), hkK]
                    · rw [if_neg h2, if_neg (by omega)]
                      split <;> rfl
                unfold Hid; rw [e]; exact hHk.out
              clear hHk
              go_wp2_with fail
              go_roundg g2
              case measure => omega
              case rel => exact ⟨c + 1, by omega, by first | rfl | simp, hHn, hbk⟩
            | succ g3 =>
              have hz3 : (k : Int) < (K : Int) := by omega
              have hk : k < K := by omega
              have hbW : Below w.heap.size w wr := hbx.trans ((show Below wo.heap.size wo wr by rw [hgs]; exact hbk).mono (by rw [hgs]; exact hsz))
              obtain ⟨gk, okk, ck, qb1, qb2, qb3⟩ := HB.out k hk
              have p1 := cell_below hbW hga qa2
              have p2 := cell_below hbW qa1 (QA3.out k hk).1
              have p3 := cell_below hbW hgb qb2
              have p4 := cell_below hbW qb1 (qb3 c hc).1
              have l1 := (QA3.out k hk).2
              have l2 := (qb3 c hc).2
              have hlr : (rowN C (sofar K r c k)).length = C := rowN_length _ _
              have es : sofar K r c k c = El.xs k (r c) := by unfold sofar; rw [if_neg (by omega), if_pos rfl]
              have l0 : El.xs k (r c) < 256 := El.xs_lt (HRb.out c) k
              have p5 := (hHk.out.cell c).trans (U8s_get _ c (by rw [hlr]; exact hc))
              rw [rowN_get _ _ _ hc, es] at p5
              have HNx : Hid (rowN C (fun j => if j = c then El.xs k (r c) ^^^ Fld.mul (at2 ma i k) (at2 mb k c) else sofar K r c k j) = rowN C (sofar K r c (k + 1))) := rowN_congr fun j _ => by
                unfold sofar
                by_cases h2 : j = c
                · rw [if_pos h2, if_neg (by omega), if_pos h2, h2, ← HRe.out]; rfl
                · rw [if_neg h2]
                  by_cases h1 : j < c
                  · rw [if_pos h1, if_pos h1]
                  · rw [if_neg h1, if_neg h1, if_neg h2, if_neg h2]
              have hgl : g < wr.heap.size := hHk.out.lt
              have HLs : Hid (∀ W', Below wr.heap.size wr W' → (∃ y, W'.cell? ⟨g, 0 + c, none⟩ = some y) ∧ W'.frozen? ⟨g, 0 + c, none⟩ = false ∧ Has (W'.setCell ⟨g, 0 + c, none⟩ (.int .u8 ((El.xs k (r c) ^^^ Fld.mul (at2 ma i k) (at2 mb k c) : Nat) : Int))) g (U8s (rowN C (sofar K r c (k + 1)))) 5 ∧ Below g wo (W'.setCell ⟨g, 0 + c, none⟩ (.int .u8 ((El.xs k (r c) ^^^ Fld.mul (at2 ma i k) (at2 mb k c) : Nat) : Int)))) := fun W' hb => by
                have hH' := hHk.out.below hb hgl
                rw [Nat.zero_add]
                have hS := hH'.set c (.int .u8 ((El.xs k (r c) ^^^ Fld.mul (at2 ma i k) (at2 mb k c) : Nat) : Int))
                rw [U8s_set, rowN_set, HNx.out] at hS
                exact ⟨⟨_, (hH'.cell c).trans (U8s_get _ c (by rw [hlr]; exact hc))⟩, hH'.frozen c, hS, (hbk.trans (hb.mono (Nat.le_of_lt hgl))).setCell (Nat.le_refl _) _⟩
              generalize at2 ma i k = x1 at *
              generalize at2 mb k c = x2 at *
              generalize El.xs k (r c) = t at *
              have l3 := Fld.mul_lt x1 x2
              have HCs : Hid (∀ W', Below wr.heap.size wr W' → W'.cell? ⟨g, 0 + c, none⟩ = some (.int .u8 (t : Int)) ∧ W'.cell? ⟨ga, oa + i, none⟩ = some (.slice (some ⟨gi, oi, none⟩) K ci) ∧ W'.cell? ⟨gi, oi + k, none⟩ = some (.int .u8 (x1 : Int)) ∧ W'.cell? ⟨gb, ob + k, none⟩ = some (.slice (some ⟨gk, okk, none⟩) C ck) ∧ W'.cell? ⟨gk, okk + c, none⟩ = some (.int .u8 (x2 : Int))) := fun W' hb => by
                rw [Nat.zero_add]
                exact ⟨cell_below hb hgl p5, cell_below hb (World.block_lt_of_cell? (h := p1)) p1, cell_below hb (World.block_lt_of_cell? (h := p2)) p2, cell_below hb (World.block_lt_of_cell? (h := p3)) p3, cell_below hb (World.block_lt_of_cell? (h := p4)) p4⟩
              clear p1 p2 p3 p4 p5 qb2 qb3 HNx hHk hlr es
              go_wp2_with fail
              refine wp_region_last_lit (by kernel_rfl) 33 (by kernel_rfl) (by simp) (by simp) (fun W' => Below wr.heap.size wr W') (vals ([.slice (some ⟨g, 0, none⟩) C C, .int .i64 (c : Int), .slice (some ⟨g, 0, none⟩) C C, .int .i64 (c : Int), .pointer (some ⟨g, 0 + c, none⟩), .int .u8 (t : Int), .slice (some ⟨ga, oa, none⟩) R ca, .int .i64 (i : Int), .pointer (some ⟨ga, oa + i, none⟩), .slice (some ⟨gi, oi, none⟩) K ci, .int .i64 (k : Int), .pointer (some ⟨gi, oi + k, none⟩), .int .u8 (x1 : Int), .slice (some ⟨gb, ob, none⟩) K cb, .int .i64 (k : Int), .pointer (some ⟨gb, ob + k, none⟩), .slice (some ⟨gk, okk, none⟩) C ck, .int .i64 (c : Int), .pointer (some ⟨gk, okk + c, none⟩), .int .u8 (x2 : Int), .int .u8 ((Fld.mul x1 x2 : Nat) : Int), .int .u8 ((t ^^^ Fld.mul x1 x2 : Nat) : Int), .pointer (some ⟨g, 0 + c, none⟩)] : List Value)) (Below.refl _ _).drew
                ⟨fun a' W' hC hF => st_val 33 _ rfl (rn_move rfl (hF 7 (by decide))) hC,
                  fun a' W' hC hF => st_val 34 _ rfl (rn_move rfl (hF 8 (by decide))) hC,
                  fun a' W' hC hF => st_val 35 _ rfl (rn_move rfl (hF 7 (by decide))) hC,
                  fun a' W' hC hF => st_val 36 _ rfl (rn_move rfl (hF 8 (by decide))) hC,
                  fun a' W' hC hF => st_val 37 _ rfl (rn_at23 rfl (hF 35 (by decide)) (hF 36 (by decide)) hc) hC,
                  fun a' W' hC hF => st_val 38 _ rfl (rn_load5 rfl (hF 37 (by decide)) (HCs.out W' hC).1) hC,
                  fun a' W' hC hF => st_val 39 _ rfl (rn_move rfl (hF 0 (by decide))) hC,
                  fun a' W' hC hF => st_val 40 _ rfl (rn_move rfl (hF 6 (by decide))) hC,
                  fun a' W' hC hF => st_val 41 _ rfl (rn_at22 rfl (hF 39 (by decide)) (hF 40 (by decide)) hi) hC,
                  fun a' W' hC hF => st_val 42 _ rfl (rn_load23 rfl (hF 41 (by decide)) (HCs.out W' hC).2.1) hC,
                  fun a' W' hC hF => st_val 43 _ rfl (rn_move rfl (hF 9 (by decide))) hC,
                  fun a' W' hC hF => st_val 44 _ rfl (rn_at23 rfl (hF 42 (by decide)) (hF 43 (by decide)) hk) hC,
                  fun a' W' hC hF => st_val 45 _ rfl (rn_load5 rfl (hF 44 (by decide)) (HCs.out W' hC).2.2.1) hC,
                  fun a' W' hC hF => st_val 46 _ rfl (rn_move rfl (hF 1 (by decide))) hC,
                  fun a' W' hC hF => st_val 47 _ rfl (rn_move rfl (hF 9 (by decide))) hC,
                  fun a' W' hC hF => st_val 48 _ rfl (rn_at22 rfl (hF 46 (by decide)) (hF 47 (by decide)) hk) hC,
                  fun a' W' hC hF => st_val 49 _ rfl (rn_load23 rfl (hF 48 (by decide)) (HCs.out W' hC).2.2.2.1) hC,
                  fun a' W' hC hF => st_val 50 _ rfl (rn_move rfl (hF 8 (by decide))) hC,
                  fun a' W' hC hF => st_val 51 _ rfl (rn_at23 rfl (hF 49 (by decide)) (hF 50 (by decide)) hc) hC,
                  fun a' W' hC hF => st_val 52 _ rfl (rn_load5 rfl (hF 51 (by decide)) (HCs.out W' hC).2.2.2.2) hC,
                  fun a' W' hC hF => st_call 53 _ 31 _ rfl (rn_call2 rfl rfl (hF 45 (by decide)) (hF 52 (by decide)) (enter31 _)) ((refMul_any x1 x2 l1 l2 W').mono fun e w'' h => ⟨h.1, by rw [h.2]; exact hC⟩),
                  fun a' W' hC hF => st_val 54 _ rfl (rn_xor rfl (hF 38 (by decide)) (hF 53 (by decide)) l0 l3) hC,
                  fun a' W' hC hF => st_val 55 _ rfl (rn_at23 rfl (hF 33 (by decide)) (hF 34 (by decide)) hc) hC,
                  ?_⟩
              intro W' hC
              generalize hA : puts _ _ _ _ = A
              have hx1 : A.eval (.tmp 55) = .pointer (some ⟨g, 0 + c, none⟩) := by rw [← hA]; exact ev_puts 23 22 rfl (by simp) (by decide)
              have hy1 : A.eval (.tmp 54) = .int .u8 ((t ^^^ Fld.mul x1 x2 : Nat) : Int) := by rw [← hA]; exact ev_puts 23 21 rfl (by simp) (by decide)
              obtain ⟨⟨y1, u1⟩, u2, u3⟩ := HLs.out W' hC
              refine st_store rfl (rn_store5 rfl hx1 hy1 u1 u2) ?_
              rw [← hA]
              clear hx1 hy1 hA A u1 u2
              rw [Nat.zero_add] at u3
              have HL' : Hid _ := u3
              rw [Nat.zero_add]
              clear u3
              simp only [List.length_cons, List.length_nil, Nat.reduceAdd, Nat.reduceSub, puts, Act.put, vals, List.setIfInBounds_toArray, List.set_cons_succ, List.set_cons_zero, List.getD_cons_succ, List.getD_cons_zero]
              go_wp2_with fail
              go_roundg g3
              case measure => omega
              case rel => exact ⟨k + 1, by omega, by first | rfl | simp, HL'.out.1, HL'.out.2⟩
end Go.Proofs.Ytjgjcbgeekfkkaa
