/- addProducts: products are added to a piece, byte by byte. -/
import Derived.Test.YtfbjpgcgdhhfnaaCMath
namespace Go.Proofs.Ytfbjpgcgdhhfnaa
open Go.RowKit
def addF (F : Nat → Nat) (o n tm : Nat) (p : Nat → Nat) : Nat → Nat := fun i => if o ≤ i ∧ i < o + n then F i ^^^ Fld.mul tm (p (i - o)) else F i
theorem addF_zero (F : Nat → Nat) (o tm : Nat) (p : Nat → Nat) : addF F o 0 tm p = F := by
  funext i; unfold addF; rw [if_neg (by omega)]
theorem addF_set (F : Nat → Nat) (o k tm M : Nat) (p : Nat → Nat) : rowN M (fun i => if i = o + k then F (o + k) ^^^ Fld.mul tm (p k) else addF F o k tm p i) = rowN M (addF F o (k + 1) tm p) := rowN_congr fun i _ => by
  unfold addF
  by_cases h : i = o + k
  · subst h; rw [if_pos rfl, if_pos (by omega)]; congr 3; omega
  · rw [if_neg h]
    by_cases h2 : o ≤ i ∧ i < o + k
    · rw [if_pos h2, if_pos (by omega)]
    · rw [if_neg h2, if_neg (by omega)]
theorem addF_at (F : Nat → Nat) (o k tm : Nat) (p : Nat → Nat) : addF F o k tm p (o + k) = F (o + k) := by unfold addF; rw [if_neg (by omega)]
/-- where a piece lies: apart from what is written -/
def PieceAt (w : World) (g o n M gp op : Nat) (F p : Nat → Nat) : Prop :=
  (gp ≠ g ∧ gp < w.heap.size ∧ ∀ j, j < n → w.cell? ⟨gp, op + j, none⟩ = some (.int .u8 (p j : Int))) ∨ (gp = g ∧ op + n ≤ M ∧ (op + n ≤ o ∨ o + n ≤ op) ∧ ∀ j, j < n → p j = F (op + j))
theorem keeps_block {g : Nat} {w w' : World} (h : Keeps g (g + 1) w w') {b : Nat} (hb : b ≠ g) (hl : b < w.heap.size) : w'.heap[b]? = w.heap[b]? := by
  by_cases hlt : b < g
  · exact h.1.block b hlt
  · exact h.2 b (by omega) hl
set_option maxRecDepth 20000 in
set_option maxHeartbeats 2000000 in
theorem addProducts_any (fb g o n cap gp op capp M tm : Nat) (F p : Nat → Nat) (w : World) (hF : Has w fb FC 79) (hG : Has w g (U8s (rowN M F)) 5) (hne : fb ≠ g) (ho : o + n ≤ M) (hM : M ≤ 1000000) (hFb : ∀ i, F i < 256) (htm : tm < 256)
    (hp : ∀ j, j < n → p j < 256) (hpc : PieceAt w g o n M gp op F p) :
    Calls Try.prog 33 #[.pointer (some ⟨fb, 0, none⟩), .slice (some ⟨g, o, none⟩) n cap, .int .u8 (tm : Int), .slice (some ⟨gp, op, none⟩) n capp] w fun e w' => e = .returned (.tuple #[]) ∧ Has w' g (U8s (rowN M (addF F o n tm p))) 5 ∧ Keeps g (g + 1) w w' := by
  by_cases hz : tm = 0
  · have HE : Hid (Has w g (U8s (rowN M (addF F o n tm p))) 5) := by
      have e : rowN M (addF F o n tm p) = rowN M F := rowN_congr fun i _ => by
        unfold addF; split
        · rw [hz, Fld.zero_mul, Nat.xor_zero]
        · rfl
      unfold Hid; rw [e]; exact hG
    have z0 : ((tm : Int) == 0) = true := by rw [hz]; rfl
    clear hG hpc hF
    go_enter Try.func33, Try.ntmps33
    go_wp2_with fail
    refine bodyPost_ret (results_none rfl _ _ _) rfl ?_
    exact ⟨rfl, HE.out, Keeps.refl _ _ _⟩
  · have z0 : ((tm : Int) == 0) = false := by rw [beq_eq_false_iff_ne]; omega
    have hgl := hG.lt
    have hG0 : Hid (Has w g (U8s (rowN M (addF F o 0 tm p))) 5) := by unfold Hid; rw [addF_zero]; exact hG
    have HP := hid hp
    have HFb := hid hFb
    have HPC := hid hpc
    clear hG hp hFb hpc
    go_enter Try.func33, Try.ntmps33
    go_wp2_with fail
    go_loopw [14] (fun vi wr => ∃ k : Nat, k ≤ n ∧ vi = .int .i64 (k : Int) ∧ Hid (Has wr g (U8s (rowN M (addF F o k tm p))) 5) ∧ Keeps g (g + 1) w wr) (fun vi _ => n - (intOf vi).toNat)
    case atStart => exact ⟨0, by omega, rfl, hG0, Keeps.refl _ _ _⟩
    case round =>
      obtain ⟨k, hk, rfl, hH, hK⟩ := hrel
      clear hG0
      by_cases hlt : k < n
      · have d1 : (k : Int) < (n : Int) := by omega
        have hgl1 : g < wr.heap.size := hH.out.lt
        have hF1 := hK.hasNe hF hne
        have l1 := HFb.out (o + k)
        have l2 := HP.out k hlt
        have l3 := Fld.mul_lt tm (p k)
        have q0 : wr.cell? ⟨gp, op + k, none⟩ = some (.int .u8 (p k : Int)) := by
          rcases HPC.out with ⟨h1, h2, h3⟩ | ⟨h1, h2, h3, h4⟩
          · rw [cell_of (keeps_block hK h1 h2)]; exact h3 k hlt
          · subst h1
            rw [hH.out.cell, U8s_get _ _ (by rw [rowN_length]; omega), rowN_get _ _ _ (by omega), h4 k hlt]
            unfold addF; rw [if_neg (by omega)]
        have q1 : wr.cell? ⟨g, o + k, none⟩ = some (.int .u8 ((F (o + k) : Nat) : Int)) := by
          rw [hH.out.cell, U8s_get _ _ (by rw [rowN_length]; omega), rowN_get _ _ _ (by omega), addF_at]
        have HC : Hid (∀ W', Below wr.heap.size wr W' → W'.cell? ⟨g, o + k, none⟩ = some (.int .u8 ((F (o + k) : Nat) : Int)) ∧ Has W' fb FC 79) := fun W' hb =>
          ⟨cell_below hb hgl1 q1, hF1.below hb hF1.lt⟩
        have HL : Hid (∀ W', Below wr.heap.size wr W' → W'.frozen? ⟨g, o + k, none⟩ = false ∧ Has (W'.setCell ⟨g, o + k, none⟩ (.int .u8 ((F (o + k) ^^^ Fld.mul tm (p k) : Nat) : Int))) g (U8s (rowN M (addF F o (k + 1) tm p))) 5 ∧ Keeps g (g + 1) w (W'.setCell ⟨g, o + k, none⟩ (.int .u8 ((F (o + k) ^^^ Fld.mul tm (p k) : Nat) : Int)))) := fun W' hb => by
          have hH' := hH.out.below hb hgl1
          have hS := hH'.set (o + k) (.int .u8 ((F (o + k) ^^^ Fld.mul tm (p k) : Nat) : Int))
          rw [U8s_set, rowN_set, addF_set] at hS
          exact ⟨hH'.frozen _, hS, (hK.trans (Keeps.ofBelow hb (by omega))).set (Nat.le_refl _) (Nat.lt_succ_self _) _⟩
        generalize F (o + k) = fk at *
        generalize hpk : p k = pk at *
        clear q1 hF1 hH HPC
        go_wp2_with fail
        refine wp_region_last_lit (by kernel_rfl) 19 (by kernel_rfl) (by simp) (by simp) (fun W' => Below wr.heap.size wr W') (vals ([.slice (some ⟨g, o, none⟩) n cap, .int .i64 (k : Int), .pointer (some ⟨fb, 0, none⟩), .slice (some ⟨g, o, none⟩) n cap, .int .i64 (k : Int), .pointer (some ⟨g, o + k, none⟩), .int .u8 (fk : Int), .pointer (some ⟨fb, 0, none⟩), .int .u8 (tm : Int), .int .u8 (pk : Int), .int .u8 ((Fld.mul tm pk : Nat) : Int), .int .u8 ((fk ^^^ Fld.mul tm pk : Nat) : Int), .pointer (some ⟨g, o + k, none⟩)] : List Value)) (Below.refl _ _).drew
          ⟨fun a' W' hC hF => st_val 19 _ rfl (rn_move rfl (hF 1 (by decide))) hC,
           fun a' W' hC hF => st_val 20 _ rfl (rn_move rfl (hF 8 (by decide))) hC,
           fun a' W' hC hF => st_val 21 _ rfl (rn_move rfl (hF 0 (by decide))) hC,
           fun a' W' hC hF => st_val 22 _ rfl (rn_move rfl (hF 1 (by decide))) hC,
           fun a' W' hC hF => st_val 23 _ rfl (rn_move rfl (hF 8 (by decide))) hC,
           fun a' W' hC hF => st_val 24 _ rfl (rn_at31 rfl (hF 22 (by decide)) (hF 23 (by decide)) hlt) hC,
           fun a' W' hC hF => st_val 25 _ rfl (rn_load5 rfl (hF 24 (by decide)) (HC.out W' hC).1) hC,
           fun a' W' hC hF => st_val 26 _ rfl (rn_move rfl (hF 0 (by decide))) hC,
           fun a' W' hC hF => st_val 27 _ rfl (rn_move rfl (hF 2 (by decide))) hC,
           fun a' W' hC hF => st_val 28 _ rfl (rn_move rfl (hF 9 (by decide))) hC,
           fun a' W' hC hF => st_call 29 _ 46 _ rfl (rn_call3 rfl rfl (hF 26 (by decide)) (hF 27 (by decide)) (hF 28 (by decide)) (enter46 _)) ((mul_any _ tm pk htm l2 W' (.inr ⟨fb, rfl, (HC.out W' hC).2⟩)).mono fun e w'' h => ⟨h.1, belowCall hC h.2⟩),
           fun a' W' hC hF => st_call 30 _ 45 _ rfl (rn_call3 rfl rfl (hF 21 (by decide)) (hF 25 (by decide)) (hF 29 (by decide)) (enter45 _)) ((add_any _ fk (Fld.mul tm pk) l1 l3 W').mono fun e w'' h => ⟨h.1, belowCall hC h.2⟩),
           fun a' W' hC hF => st_val 31 _ rfl (rn_at31 rfl (hF 19 (by decide)) (hF 20 (by decide)) hlt) hC,
           ?_⟩
        intro W' hC
        generalize hA : puts _ _ _ _ = A
        have hx1 : A.eval (.tmp 31) = .pointer (some ⟨g, o + k, none⟩) := by rw [← hA]; exact ev_puts 13 12 rfl (by simp) (by decide)
        have hy1 : A.eval (.tmp 30) = .int .u8 ((fk ^^^ Fld.mul tm pk : Nat) : Int) := by rw [← hA]; exact ev_puts 13 11 rfl (by simp) (by decide)
        refine st_store rfl (rn_store5 rfl hx1 hy1 (HC.out W' hC).1 (HL.out W' hC).1) ?_
        rw [← hA]
        clear hx1 hy1 hA A
        have HL' := hid (HL.out W' hC)
        clear HL
        simp only [List.length_cons, List.length_nil, Nat.reduceAdd, Nat.reduceSub, puts, Act.put, vals, List.setIfInBounds_toArray, List.set_cons_succ, List.set_cons_zero, List.getD_cons_succ, List.getD_cons_zero]
        go_wp2_with fail
        exact ⟨⟨k + 1, by omega, rfl, HL'.out.2.1, HL'.out.2.2⟩, by simp [intOf]; omega⟩
      · obtain rfl : k = n := by omega
        go_wp2_with fail
        go_end0
        exact ⟨rfl, hH.out, hK⟩
end Go.Proofs.Ytfbjpgcgdhhfnaa
