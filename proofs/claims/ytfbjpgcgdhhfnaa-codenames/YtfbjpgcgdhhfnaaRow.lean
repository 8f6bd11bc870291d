/- What is done to one row: it is multiplied; it is taken off another one. -/
import Derived.Test.YtfbjpgcgdhhfnaaOps
namespace Go.Proofs.Ytfbjpgcgdhhfnaa
open Go.RowKit
theorem Keeps.hasNe {g : Nat} {w w' : World} (h : Keeps g (g + 1) w w') {b : Nat} {cs : Array Value} {t : TypeId} (hh : Has w b cs t) (hb : b ≠ g) : Has w' b cs t := by
  by_cases hl : b < g
  · exact hh.below h.1 hl
  · exact h.has hh (by omega)
theorem Keeps.rowNe {g : Nat} {w w' : World} (h : Keeps g (g + 1) w w') {b W : Nat} {r : Nat → Nat} (hh : RowW w b W r) (hp : 0 < W) (hb : b ≠ g) : RowW w' b W r := by
  have hl := rowW_lt hh hp
  by_cases hlt : b < g
  · exact hh.of (h.1.block b hlt)
  · exact hh.of (h.2 b (by omega) hl)
def oneTo (r : Nat → Nat) (x k : Nat) : Nat → Nat := fun i => if i < k then Fld.mul (r i) x else r i
theorem oneTo_set (r : Nat → Nat) (x k : Nat) : oneTo r x (k + 1) k = Fld.mul (r k) x ∧ ∀ i, i ≠ k → oneTo r x (k + 1) i = oneTo r x k i := by
  refine ⟨by unfold oneTo; rw [if_pos (by omega)], fun i hi => ?_⟩
  unfold oneTo
  by_cases h : i < k
  · rw [if_pos h, if_pos (by omega)]
  · rw [if_neg h, if_neg (by omega)]
set_option maxRecDepth 20000 in
theorem makeOne_any (F g W cap c : Nat) (r : Nat → Nat) (w : World) (hF : Has w F FC 79) (hr : RowW w g W r) (hW : W ≤ 1000000) (hc : c < W) (hne : r c ≠ 0) (hgF : F ≠ g) :
    Calls Try.prog 62 #[.pointer (some ⟨F, 0, none⟩), .slice (some ⟨g, 0, none⟩) W cap, .int .i64 (c : Int)] w fun e w' => e = .returned (.tuple #[]) ∧ RowW w' g W (fun j => Fld.mul (r j) (Fld.inv (r c))) ∧ Keeps g (g + 1) w w' := by
  have k0 := (hr c hc).1
  have k1 := (hr c hc).2.2
  have hgl := rowW_lt hr (by omega)
  have d0 : (c : Int) < (W : Int) := by omega
  have HI : Hid (Ending.returned (.tuple #[.int .u8 ((if r c = 0 then 0 else Fld.inv (r c) : Nat) : Int), .bool (decide (r c ≠ 0))]) = .returned (.tuple #[.int .u8 ((Fld.inv (r c) : Nat) : Int), .bool true])) := by
    unfold Hid; rw [if_neg hne, decide_eq_true hne]
  have HR : Hid (∀ j, j < W → r j < 256) := fun j hj => (hr j hj).2.2
  have hR0 : Hid (RowW w g W (oneTo r (Fld.inv (r c)) 0)) := hr.congr fun j _ => by unfold oneTo; rw [if_neg (by omega)]
  have HE : Hid (∀ j, j < W → oneTo r (Fld.inv (r c)) W j = Fld.mul (r j) (Fld.inv (r c))) := fun j hj => by unfold oneTo; rw [if_pos hj]
  clear hr
  go_enter Try.func62, Try.ntmps62
  go_wp2_with fail
  refine (inv_any _ (r c) k1 w (.inr ⟨F, rfl, hF⟩)).mono ?_
  rintro e w1 ⟨rfl, b1⟩
  rw [HI.out]
  have hx := Fld.inv_lt (r c)
  have hR1 : Hid (RowW w1 g W (oneTo r (Fld.inv (r c)) 0)) := hR0.out.of (b1.block g hgl)
  have K1 : Keeps g (g + 1) w w1 := Keeps.ofBelow b1 (by omega)
  obtain ⟨x, hxe⟩ : ∃ x, Hid (x = Fld.inv (r c)) := ⟨_, rfl⟩
  rw [← hxe.out] at hx hR1 HE ⊢
  clear HI k0 hR0 b1
  go_wp2_with fail
  go_loopw [20] (fun vi wr => ∃ k : Nat, k ≤ W ∧ vi = .int .i64 (k : Int) ∧ Hid (RowW wr g W (oneTo r x k)) ∧ Keeps g (g + 1) w wr) (fun vi _ => W - (intOf vi).toNat)
  case atStart => exact ⟨0, by omega, rfl, hR1, K1⟩
  case round =>
    obtain ⟨k, hk, rfl, hR, hK⟩ := hrel
    clear hR1 K1
    by_cases hlt : k < W
    · have q1 := (hR.out k hlt).1
      have e1 : oneTo r x k k = r k := by unfold oneTo; rw [if_neg (by omega)]
      rw [e1] at q1
      have hF1 : Hid (Has wr F FC 79) := hK.hasNe hF hgF
      have hrk := HR.out k hlt
      have d1 : (k : Int) < (W : Int) := by omega
      have hgl1 : g < wr.heap.size := Nat.lt_of_lt_of_le hgl hK.1.size
      clear e1
      go_wp2_with fail
      refine (mul_any _ (r k) x hrk hx wr (.inr ⟨F, rfl, hF1.out⟩)).mono ?_
      rintro e w2 ⟨rfl, b2⟩
      have hR2 : Hid (RowW w2 g W (oneTo r x k)) := hR.out.of (b2.block g hgl1)
      have q2 := (hR2.out k hlt).1
      have q3 := (hR2.out k hlt).2.1
      have K2 : Keeps g (g + 1) w w2 := hK.trans (Keeps.ofBelow b2 (by omega))
      have hR3 : Hid (RowW (w2.setCell ⟨g, k, none⟩ (.int .u8 ((Fld.mul (r k) x : Nat) : Int))) g W (oneTo r x (k + 1))) := hR2.out.set k _ hlt (Fld.mul_lt _ _) (oneTo_set r x k).1 (fun i _ hi => (oneTo_set r x k).2 i hi)
      have K3 : Keeps g (g + 1) w (w2.setCell ⟨g, k, none⟩ (.int .u8 ((Fld.mul (r k) x : Nat) : Int))) := K2.set (Nat.le_refl _) (Nat.lt_succ_self _) _
      generalize Fld.mul (r k) x = y at *
      clear q1
      go_wp2_with fail
      exact ⟨⟨k + 1, by omega, rfl, hR3, K3⟩, by simp [intOf]; omega⟩
    · obtain rfl : k = W := by omega
      go_wp2_with fail
      go_end0
      exact ⟨rfl, hR.out.congr fun j hj => by rw [← hxe.out]; exact (HE.out j hj).symm, hK⟩
def offTo (r s : Nat → Nat) (c x k : Nat) : Nat → Nat := fun i => if c ≤ i ∧ i < k then r i ^^^ Fld.mul (s i) x else r i
theorem offTo_set (r s : Nat → Nat) (c x k : Nat) (hk : c ≤ k) : offTo r s c x (k + 1) k = r k ^^^ Fld.mul (s k) x ∧ ∀ i, i ≠ k → offTo r s c x (k + 1) i = offTo r s c x k i := by
  refine ⟨by unfold offTo; rw [if_pos (by omega)], fun i hi => ?_⟩
  unfold offTo
  by_cases h : c ≤ i ∧ i < k
  · rw [if_pos h, if_pos (by omega)]
  · rw [if_neg h, if_neg (by omega)]
set_option maxRecDepth 20000 in
set_option maxHeartbeats 2000000 in
theorem takeOff1_any (F g gd W cap cap' c bc br bf : Nat) (r s : Nat → Nat) (w : World) (hF : Has w F FC 79) (hbc : Has w bc #[.int .i64 (c : Int)] 3) (hbr : Has w br #[.slice (some ⟨gd, 0, none⟩) W cap'] 31) (hbf : Has w bf #[.pointer (some ⟨F, 0, none⟩)] 58)
    (hr : RowW w g W r) (hs : RowW w gd W s) (hW : W ≤ 1000000) (hc : c < W) (hgF : F ≠ g) (hgd : gd ≠ g) (h1 : bc ≠ g) (h2 : br ≠ g) (h3 : bf ≠ g) :
    Calls Try.prog 65 #[.slice (some ⟨g, 0, none⟩) W cap, .pointer (some ⟨bc, 0, none⟩), .pointer (some ⟨br, 0, none⟩), .pointer (some ⟨bf, 0, none⟩)] w fun e w' => e = .returned (.tuple #[]) ∧ RowW w' g W (offTo r s c (r c) W) ∧ Keeps g (g + 1) w w' := by
  have k0 := (hr c hc).1
  have k1 := (hr c hc).2.2
  have hgl := rowW_lt hr (by omega)
  have d0 : (c : Int) < (W : Int) := by omega
  have c1 : w.cell? ⟨bc, 0, none⟩ = some (.int .i64 (c : Int)) := hbc.cell 0
  have c2 : w.cell? ⟨br, 0, none⟩ = some (.slice (some ⟨gd, 0, none⟩) W cap') := hbr.cell 0
  have c3 : w.cell? ⟨bf, 0, none⟩ = some (.pointer (some ⟨F, 0, none⟩)) := hbf.cell 0
  by_cases hz : r c = 0
  · have HE : Hid (RowW w g W (offTo r s c (r c) W)) := hr.congr fun j _ => by
      unfold offTo; split
      · rw [hz, Fld.mul_zero, Nat.xor_zero]
      · rfl
    have z0 : ((r c : Int) == 0) = true := by rw [hz]; rfl
    clear hr
    go_enter Try.func65, Try.ntmps65
    go_wp2_with fail
    refine bodyPost_ret (results_none rfl _ _ _) rfl ?_
    exact ⟨rfl, HE.out, Keeps.refl _ _ _⟩
  · have z0 : ((r c : Int) == 0) = false := by rw [beq_eq_false_iff_ne]; omega
    have HR : Hid (∀ j, j < W → r j < 256 ∧ s j < 256) := fun j hj => ⟨(hr j hj).2.2, (hs j hj).2.2⟩
    have hR0 : Hid (RowW w g W (offTo r s c (r c) c)) := hr.congr fun j _ => by unfold offTo; rw [if_neg (by omega)]
    have HS : Hid (RowW w gd W s) := hs
    clear hr hs
    obtain ⟨x, hx⟩ : ∃ x, Hid (x = r c) := ⟨_, rfl⟩
    rw [← hx.out] at k0 k1 z0 hR0 ⊢
    go_enter Try.func65, Try.ntmps65
    go_wp2_with fail
    go_loopw [6] (fun vi wr => ∃ k : Nat, c ≤ k ∧ k ≤ W ∧ vi = .int .i64 (k : Int) ∧ Hid (RowW wr g W (offTo r s c x k)) ∧ Keeps g (g + 1) w wr) (fun vi _ => W - (intOf vi).toNat)
    case atStart => exact ⟨c, by omega, by omega, rfl, hR0, Keeps.refl _ _ _⟩
    case round =>
      obtain ⟨k, hck, hk, rfl, hR, hK⟩ := hrel
      have c1' : wr.cell? ⟨bc, 0, none⟩ = some (.int .i64 (c : Int)) := (hK.hasNe hbc h1).cell 0
      have c2' : wr.cell? ⟨br, 0, none⟩ = some (.slice (some ⟨gd, 0, none⟩) W cap') := (hK.hasNe hbr h2).cell 0
      have c3' : wr.cell? ⟨bf, 0, none⟩ = some (.pointer (some ⟨F, 0, none⟩)) := (hK.hasNe hbf h3).cell 0
      clear hR0 k0 c1 c2 c3
      by_cases hlt : k < W
      · have d1 : (k : Int) < (W : Int) := by omega
        have q1 := (hR.out k hlt).1
        have e1 : offTo r s c x k k = r k := by unfold offTo; rw [if_neg (by omega)]
        rw [e1] at q1
        have hgl1 : g < wr.heap.size := Nat.lt_of_lt_of_le hgl hK.1.size
        have hF1 := hK.hasNe hF hgF
        have hS1 := hK.rowNe HS.out (by omega) hgd
        obtain ⟨l1, l2⟩ := HR.out k hlt
        have HC : Hid (∀ W', Below wr.heap.size wr W' → W'.cell? ⟨g, 0 + k, none⟩ = some (.int .u8 (r k : Int)) ∧ W'.cell? ⟨gd, 0 + k, none⟩ = some (.int .u8 (s k : Int)) ∧ W'.cell? ⟨br, 0, none⟩ = some (.slice (some ⟨gd, 0, none⟩) W cap') ∧ W'.cell? ⟨bf, 0, none⟩ = some (.pointer (some ⟨F, 0, none⟩)) ∧ Has W' F FC 79) := fun W' hb => by
          rw [Nat.zero_add]
          exact ⟨cell_below hb hgl1 q1, cell_below hb (rowW_lt hS1 (by omega)) (hS1 k hlt).1, cell_below hb (World.block_lt_of_cell? (h := c2')) c2', cell_below hb (World.block_lt_of_cell? (h := c3')) c3', hF1.below hb hF1.lt⟩
        have HL : Hid (∀ W', Below wr.heap.size wr W' → W'.cell? ⟨g, 0 + k, none⟩ = some (.int .u8 (r k : Int)) ∧ W'.frozen? ⟨g, 0 + k, none⟩ = false ∧ RowW (W'.setCell ⟨g, 0 + k, none⟩ (.int .u8 ((r k ^^^ Fld.mul (s k) x : Nat) : Int))) g W (offTo r s c x (k + 1)) ∧ Keeps g (g + 1) w (W'.setCell ⟨g, 0 + k, none⟩ (.int .u8 ((r k ^^^ Fld.mul (s k) x : Nat) : Int)))) := fun W' hb => by
          have hR' := hR.out.of (hb.block g hgl1)
          have h0 := hR' k hlt
          rw [e1] at h0
          rw [Nat.zero_add]
          exact ⟨h0.1, h0.2.1, hR'.set k _ hlt (Fld.xor_lt l1 (Fld.mul_lt _ _)) (offTo_set r s c x k hck).1 (fun i _ hi => (offTo_set r s c x k hck).2 i hi), (hK.trans (Keeps.ofBelow hb (by omega))).set (Nat.le_refl _) (Nat.lt_succ_self _) _⟩
        have l3 := Fld.mul_lt (s k) x
        clear q1 e1 hS1 hF1
        go_wp2_with fail
        refine wp_region_last_lit (by kernel_rfl) 20 (by kernel_rfl) (by simp) (by simp) (fun W' => Below wr.heap.size wr W') (vals ([.slice (some ⟨g, 0, none⟩) W cap, .int .i64 (k : Int), .pointer (some ⟨F, 0, none⟩), .slice (some ⟨g, 0, none⟩) W cap, .int .i64 (k : Int), .pointer (some ⟨g, 0 + k, none⟩), .int .u8 (r k : Int), .pointer (some ⟨F, 0, none⟩), .slice (some ⟨gd, 0, none⟩) W cap', .int .i64 (k : Int), .pointer (some ⟨gd, 0 + k, none⟩), .int .u8 (s k : Int), .int .u8 (x : Int), .int .u8 ((Fld.mul (s k) x : Nat) : Int), .int .u8 ((r k ^^^ Fld.mul (s k) x : Nat) : Int), .pointer (some ⟨g, 0 + k, none⟩)] : List Value)) (Below.refl _ _).drew
          ⟨fun a' W' hC hF => st_val 20 _ rfl (rn_move rfl (hF 0 (by decide))) hC,
           fun a' W' hC hF => st_val 21 _ rfl (rn_move rfl (hF 6 (by decide))) hC,
           fun a' W' hC hF => st_val 22 _ rfl (rn_load58 rfl (hF 3 (by decide)) (HC.out W' hC).2.2.2.1) hC,
           fun a' W' hC hF => st_val 23 _ rfl (rn_move rfl (hF 0 (by decide))) hC,
           fun a' W' hC hF => st_val 24 _ rfl (rn_move rfl (hF 6 (by decide))) hC,
           fun a' W' hC hF => st_val 25 _ rfl (rn_at31 rfl (hF 23 (by decide)) (hF 24 (by decide)) hlt) hC,
           fun a' W' hC hF => st_val 26 _ rfl (rn_load5 rfl (hF 25 (by decide)) (HC.out W' hC).1) hC,
           fun a' W' hC hF => st_val 27 _ rfl (rn_load58 rfl (hF 3 (by decide)) (HC.out W' hC).2.2.2.1) hC,
           fun a' W' hC hF => st_val 28 _ rfl (rn_load31 rfl (hF 2 (by decide)) (HC.out W' hC).2.2.1) hC,
           fun a' W' hC hF => st_val 29 _ rfl (rn_move rfl (hF 6 (by decide))) hC,
           fun a' W' hC hF => st_val 30 _ rfl (rn_at31 rfl (hF 28 (by decide)) (hF 29 (by decide)) hlt) hC,
           fun a' W' hC hF => st_val 31 _ rfl (rn_load5 rfl (hF 30 (by decide)) (HC.out W' hC).2.1) hC,
           fun a' W' hC hF => st_val 32 _ rfl (rn_move rfl (hF 5 (by decide))) hC,
           fun a' W' hC hF => st_call 33 _ 46 _ rfl (rn_call3 rfl rfl (hF 27 (by decide)) (hF 31 (by decide)) (hF 32 (by decide)) (enter46 _)) ((mul_any _ (s k) x l2 k1 W' (.inr ⟨F, rfl, (HC.out W' hC).2.2.2.2⟩)).mono fun e w'' h => ⟨h.1, belowCall hC h.2⟩),
           fun a' W' hC hF => st_call 34 _ 45 _ rfl (rn_call3 rfl rfl (hF 22 (by decide)) (hF 26 (by decide)) (hF 33 (by decide)) (enter45 _)) ((add_any _ (r k) (Fld.mul (s k) x) l1 l3 W').mono fun e w'' h => ⟨h.1, belowCall hC h.2⟩),
           fun a' W' hC hF => st_val 35 _ rfl (rn_at31 rfl (hF 20 (by decide)) (hF 21 (by decide)) hlt) hC,
           ?_⟩
        intro W' hC
        generalize hA : puts _ _ _ _ = A
        have hx1 : A.eval (.tmp 35) = .pointer (some ⟨g, 0 + k, none⟩) := by rw [← hA]; exact ev_puts 16 15 rfl (by simp) (by decide)
        have hy1 : A.eval (.tmp 34) = .int .u8 ((r k ^^^ Fld.mul (s k) x : Nat) : Int) := by rw [← hA]; exact ev_puts 16 14 rfl (by simp) (by decide)
        refine st_store rfl (rn_store5 rfl hx1 hy1 (HL.out W' hC).1 (HL.out W' hC).2.1) ?_
        rw [← hA]
        clear hx1 hy1 hA A
        have HL1 := HL.out W' hC
        rw [Nat.zero_add] at HL1
        have HL' : Hid _ := HL1
        clear HL1
        simp only [List.length_cons, List.length_nil, Nat.reduceAdd, Nat.reduceSub, puts, Act.put, vals, List.setIfInBounds_toArray, List.set_cons_succ, List.set_cons_zero, List.getD_cons_succ, List.getD_cons_zero]
        go_wp2_with fail
        exact ⟨⟨k + 1, by omega, by omega, rfl, HL'.out.2.2.1, HL'.out.2.2.2⟩, by simp [intOf]; omega⟩
      · obtain rfl : k = W := by omega
        go_wp2_with fail
        go_end0
        exact ⟨rfl, hR.out, hK⟩
end Go.Proofs.Ytfbjpgcgdhhfnaa
