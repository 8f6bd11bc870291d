/- The walk of ShaNames: it answers yes. -/
import Derived.Test.YtpddjbiajagkaaaDoorWorks
namespace Go.Proofs.YtpddjbiajagkaaaDoor
open Go.RowKit
theorem begins_at (s f la : ByteArray) (l : List Nat) (hl : bs s = l) (hs : l.length ≤ 900000000000) (hf : f.size ≤ 64) (hla : la.size ≤ 64)
    (h1 : (Sha.hex (Sha.digest l)).take f.size = bs f) (h2 : (Sha.hex (Sha.digest l)).drop (64 - la.size) = bs la) (w : World) (ht : Tabs w) :
    Calls Tryd.prog 8 #[.string s, .string f, .string la] w fun e w' => e = .returned (.bool true) ∧ Below w.heap.size w w' := by
  subst hl
  exact begins_true s f la (by rw [bs_length] at hs; exact hs) hf hla w ht h1 h2
theorem str_ne {a b : ByteArray} (h : bs a ≠ bs b) : (a.toList == b.toList) = false := by
  rw [beq_eq_false_iff_ne]
  intro e
  rw [ByteArray.toList_eq, ByteArray.toList_eq] at e
  exact h (by unfold bs; rw [e])
def bad6 : List ByteArray := [⟨#[48]⟩, ⟨#[48, 103]⟩, ⟨#[103, 48]⟩, ⟨#[48, 65]⟩, ⟨#[32, 48]⟩, ⟨#[48, 48, 32]⟩]
theorem bad6_no (j : Nat) (hj : j < 6) : ¬ Sha.isHex (bs (bad6.getD j ⟨#[]⟩)) ∧ (bad6.getD j ⟨#[]⟩).size ≤ 3 := by
  have : j = 0 ∨ j = 1 ∨ j = 2 ∨ j = 3 ∨ j = 4 ∨ j = 5 := by omega
  rcases this with rfl | rfl | rfl | rfl | rfl | rfl
  · exact ⟨fun h => absurd h.1 (by decide), by decide⟩
  · exact ⟨fun h => absurd (h.2 1 (by decide)) (by decide), by decide⟩
  · exact ⟨fun h => absurd (h.2 0 (by decide)) (by decide), by decide⟩
  · exact ⟨fun h => absurd (h.2 1 (by decide)) (by decide), by decide⟩
  · exact ⟨fun h => absurd (h.2 0 (by decide)) (by decide), by decide⟩
  · exact ⟨fun h => absurd h.1 (by decide), by decide⟩
theorem bad6_get (j : Nat) (hj : j < 6) : (#[Value.string ⟨#[48]⟩, .string ⟨#[48, 103]⟩, .string ⟨#[103, 48]⟩, .string ⟨#[48, 65]⟩, .string ⟨#[32, 48]⟩, .string ⟨#[48, 48, 32]⟩] : Array Value)[j]? = some (.string (bad6.getD j ⟨#[]⟩)) := by
  have : j = 0 ∨ j = 1 ∨ j = 2 ∨ j = 3 ∨ j = 4 ∨ j = 5 := by omega
  rcases this with rfl | rfl | rfl | rfl | rfl | rfl <;> rfl
set_option maxRecDepth 20000 in
set_option maxHeartbeats 1000000 in
theorem names_walk (w : World) (ht : Tabs w) : Calls Tryd.prog 3 #[] w fun e w' => e = .returned (.bool true) ∧ Below w.heap.size w w' := by
  go_enter Tryd.func3, Tryd.ntmps3
  go_wp2_with fail
  refine (works_true w ht).mono ?_
  rintro e w1 ⟨rfl, b1⟩
  have ht1 := ht.below' b1
  go_wp2_with fail
  refine (begins_at _ _ _ [97, 98, 99, 100, 98, 99, 100, 101, 99, 100, 101, 102, 100, 101, 102, 103, 101, 102, 103, 104, 102, 103, 104, 105, 103, 104, 105, 106, 104, 105, 106, 107, 105, 106, 107, 108, 106, 107, 108, 109, 107, 108, 109, 110, 108, 109, 110, 111, 109, 110, 111, 112, 110, 111, 112, 113] (by rfl) (by decide) (by decide) (by decide) (by exact facts3.1) (by exact facts3.2) _ ht1).mono ?_
  rintro e w2 ⟨rfl, b2⟩
  have ht2 := ht1.below' b2
  go_wp2_with fail
  refine (begins_at _ _ _ [97, 98, 99, 100, 101, 102, 103, 104, 98, 99, 100, 101, 102, 103, 104, 105, 99, 100, 101, 102, 103, 104, 105, 106, 100, 101, 102, 103, 104, 105, 106, 107, 101, 102, 103, 104, 105, 106, 107, 108, 102, 103, 104, 105, 106, 107, 108, 109, 103, 104, 105, 106, 107, 108, 109, 110, 104, 105, 106, 107, 108, 109, 110, 111, 105, 106, 107, 108, 109, 110, 111, 112, 106, 107, 108, 109, 110, 111, 112, 113, 107, 108, 109, 110, 111, 112, 113, 114, 108, 109, 110, 111, 112, 113, 114, 115, 109, 110, 111, 112, 113, 114, 115, 116, 110, 111, 112, 113, 114, 115, 116, 117] (by rfl) (by decide) (by decide) (by decide) (by exact facts4.1) (by exact facts4.2) _ ht2).mono ?_
  rintro e w3 ⟨rfl, b3⟩
  have ht3 := ht2.below' b3
  have B3 := belowCall (belowCall b1 b2) b3
  clear b1 b2 b3 ht1 ht2
  go_wp2_with fail
  go_loopw [1] (fun v wr => ∃ n : Nat, 50 ≤ n ∧ n ≤ 70 ∧ v = .int .i64 (n : Int) ∧ Tabs wr ∧ Below w.heap.size w wr) (fun v _ => 70 - (intOf v).toNat)
  case atStart => exact ⟨50, by omega, by omega, rfl, ht3, B3⟩
  case round =>
    clear ht3 B3
    obtain ⟨n, hn1, hn2, rfl, htr, br⟩ := hrel
    have hsz := htr.cu.lt
    by_cases hlt : n < 70
    · have dn : decide ((n : Int) < 70) = true := by simp; omega
      go_wp2_with fail
      refine (new_any wr htr).mono ?_
      rintro e w4 ⟨rfl, h4, b4⟩
      have ht4 := htr.below' b4
      have B4 : Below w.heap.size w w4 := belowCall br b4
      have hwb : w.heap.size ≤ wr.heap.size := br.size
      generalize wr.heap.size = hb at h4 hwb hsz ⊢
      clear b4 br htr
      go_wp2_with fail
      go_loopw [3] (fun v w5 => ∃ i : Nat, i ≤ n ∧ v = .int .i64 (i : Int) ∧ IsHash w5 hb (List.replicate i 113) ∧ Tabs w5 ∧ Below w.heap.size w w5) (fun v _ => n - (intOf v).toNat)
      case atStart => exact ⟨0, by omega, rfl, h4, ht4, B4⟩
      case round =>
        clear h4 ht4 B4
        obtain ⟨i, hi, rfl, h5, ht5, b5⟩ := hrel
        have hrep : ∀ k, ∀ x ∈ List.replicate k 113, x < 256 := fun k x hx => by rw [List.eq_of_mem_replicate hx]; decide
        by_cases hil : i < n
        · go_wp2_with fail
          refine (add_any _ ht5 hb (List.replicate i 113) (hrep i) h5 ⟨#[113]⟩ (by rw [List.length_replicate, show ByteArray.size ⟨#[113]⟩ = 1 from rfl]; omega)).mono ?_
          rintro e w6 ⟨rfl, h6, o6⟩
          have e6 : List.replicate i 113 ++ bs ⟨#[113]⟩ = List.replicate (i + 1) 113 := by rw [List.replicate_succ']; rfl
          rw [e6] at h6
          have H6 := b5.trans (o6.below hwb b5.size)
          have ht6 := ht5.only o6 hsz
          clear e6
          go_wp2_with fail
          go_roundw
          case rel => exact ⟨i + 1, by omega, by go_num, h6, ht6, H6⟩
          case measure => simp [intOf]; omega
        · obtain rfl : i = n := by omega
          go_wp2_with fail
          refine (hashSum_any _ ht5 hb (List.replicate i 113) (hrep i) h5 (by rw [List.length_replicate]; omega)).mono ?_
          rintro e w6 ⟨rfl, b6⟩
          have ht6 := ht5.below' b6
          have h6 := h5.below b6
          have B6 := belowCall b5 b6
          clear h5 b6 b5
          go_wp2_with fail
          refine (many_lit _ _ i 113 rfl rfl (by omega) _).mono ?_
          rintro e w7 ⟨rfl, b7⟩
          have ht7 := ht6.below' b7
          have h7 := h6.below b7
          have B7 := belowCall B6 b7
          clear h6 b7 B6
          go_wp2_with fail
          refine (sum_any _ ht7 _ (by rw [ofBs_size, List.length_replicate]; omega)).mono ?_
          rintro e w8 ⟨rfl, b8⟩
          have ht8 := ht7.below' b8
          have h8 := h7.below b8
          have B8 := belowCall B7 b8
          clear h7 b8 B7
          rw [bs_ofBs _ (hrep i)]
          go_wp2_with fail
          refine (len_any _ hb _ h8).mono ?_
          rintro e w9 ⟨rfl, rfl⟩
          rw [List.length_replicate]
          go_wp2_with fail
          refine (many_lit _ _ i 113 rfl rfl (by omega) _).mono ?_
          rintro e w10 ⟨rfl, b10⟩
          have ht10 := ht8.below' b10
          have B10 := belowCall B8 b10
          clear b10
          go_wp2_with fail
          refine (sum_any _ ht10 _ (by rw [ofBs_size, List.length_replicate]; omega)).mono ?_
          rintro e w11 ⟨rfl, b11⟩
          have ht11 := ht10.below' b11
          have B11 := belowCall B10 b11
          clear b11
          go_wp2_with fail
          refine (many_lit _ _ (i + 1) 113 (by omega) rfl (by omega) _).mono ?_
          rintro e w12 ⟨rfl, b12⟩
          have ht12 := ht11.below' b12
          have B12 := belowCall B11 b12
          clear b12
          go_wp2_with fail
          refine (sum_any _ ht12 _ (by rw [ofBs_size, List.length_replicate]; omega)).mono ?_
          rintro e w13 ⟨rfl, b13⟩
          have ht13 := ht12.below' b13
          have B13 := belowCall B12 b13
          clear b13
          rw [bs_ofBs _ (hrep i), bs_ofBs _ (hrep (i + 1))]
          have hne := facts5 i hn1 hlt
          have hqq : ((ofBs (Sha.digest (List.replicate i 113))).toList == (ofBs (Sha.digest (List.replicate (i + 1) 113))).toList) = false := by
            apply str_ne; rw [bs_ofBs _ (digest_lt _), bs_ofBs _ (digest_lt _)]; exact hne
          clear hne
          go_wp2_with fail
          exact ⟨⟨i + 1, by omega, by omega, by go_num, ht13, B13⟩, by simp [intOf]; omega⟩
    · obtain rfl : n = 70 := by omega
      have dn : decide (((70 : Nat) : Int) < 70) = false := rfl
      go_wp2_with fail
      have hA : Has (wr.alloc (Obj.cells #[Value.string ⟨#[48]⟩, .string ⟨#[48, 103]⟩, .string ⟨#[103, 48]⟩, .string ⟨#[48, 65]⟩, .string ⟨#[32, 48]⟩, .string ⟨#[48, 48, 32]⟩] 9)) wr.heap.size #[Value.string ⟨#[48]⟩, .string ⟨#[48, 103]⟩, .string ⟨#[103, 48]⟩, .string ⟨#[48, 65]⟩, .string ⟨#[32, 48]⟩, .string ⟨#[48, 48, 32]⟩] 9 := Has.new _ _ _ _ rfl
      have bA := belowAlloc br (Obj.cells #[Value.string ⟨#[48]⟩, .string ⟨#[48, 103]⟩, .string ⟨#[103, 48]⟩, .string ⟨#[48, 65]⟩, .string ⟨#[32, 48]⟩, .string ⟨#[48, 48, 32]⟩] 9)
      generalize wr.heap.size = ab at hA ⊢
      generalize wr.alloc (Obj.cells #[Value.string ⟨#[48]⟩, .string ⟨#[48, 103]⟩, .string ⟨#[103, 48]⟩, .string ⟨#[48, 65]⟩, .string ⟨#[32, 48]⟩, .string ⟨#[48, 48, 32]⟩] 9) = wA at hA bA ⊢
      clear br htr hsz
      go_loopw [62] (fun v w5 => ∃ j : Nat, j ≤ 6 ∧ v = .int .i64 (j : Int) ∧ Has w5 ab #[Value.string ⟨#[48]⟩, .string ⟨#[48, 103]⟩, .string ⟨#[103, 48]⟩, .string ⟨#[48, 65]⟩, .string ⟨#[32, 48]⟩, .string ⟨#[48, 48, 32]⟩] 9 ∧ Below w.heap.size w w5) (fun v _ => 6 - (intOf v).toNat)
      case atStart => exact ⟨0, by omega, rfl, hA, bA⟩
      case round =>
        clear hA bA
        obtain ⟨j, hj, rfl, h5, b5⟩ := hrel
        by_cases hj6 : j < 6
        · have c5 := (h5.cell j).trans (bad6_get j hj6)
          have hb := bad6_no j hj6
          have i0 : (0 : Int) ≤ (j : Int) := by omega
          have i1 : (j : Int) < 6 := by omega
          generalize bad6.getD j ⟨#[]⟩ = sj at c5 hb
          go_wp2_with fail
          refine (unhex_no sj (by omega) hb.1 _).mono ?_
          rintro e w6 ⟨rfl, b6⟩
          have h6 := h5.below b6 h5.lt
          have B6 := belowCall b5 b6
          clear b6 c5 hb
          go_wp2_with fail
          go_roundw
          case rel =>
            (repeat apply Exists.intro)
            exact ⟨⟨j + 1, by omega, by go_num, h6, B6⟩, rfl⟩
          case measure => simp [intOf]; omega
        · obtain rfl : j = 6 := by omega
          have ht5 := ht.below' b5
          have hy0 : Sha.isHex (bs ⟨#[]⟩) := ⟨rfl, fun j hj => absurd hj (by simp [bs])⟩
          have hy1 : Sha.isHex (bs ⟨#[48, 97, 102, 102, 49, 48]⟩) := by
            refine ⟨by decide, ?_⟩
            intro j hj
            have hj : j < 6 := hj
            have : j = 0 ∨ j = 1 ∨ j = 2 ∨ j = 3 ∨ j = 4 ∨ j = 5 := by omega
            rcases this with rfl | rfl | rfl | rfl | rfl | rfl <;> decide
          have Hy0 : Hid _ := hy0
          have Hy1 : Hid _ := hy1
          clear hy0 hy1
          go_wp2_with fail
          refine (unhex_yes ⟨#[]⟩ (by decide) Hy0.out _).mono ?_
          rintro e w6 ⟨rfl, b6⟩
          have ht6 := ht5.below' b6
          have B6 := belowCall b5 b6
          clear b6 b5 h5
          rw [show ofBs (Sha.unhex (bs ⟨#[]⟩)) = ⟨#[]⟩ from rfl]
          go_wp2_with fail
          refine (unhex_yes ⟨#[48, 97, 102, 102, 49, 48]⟩ (by decide) Hy1.out _).mono ?_
          rintro e w7 ⟨rfl, b7⟩
          have ht7 := ht6.below' b7
          have B7 := belowCall B6 b7
          clear b7
          rw [show ofBs (Sha.unhex (bs ⟨#[48, 97, 102, 102, 49, 48]⟩)) = ⟨#[10, 255, 16]⟩ from by decide +kernel]
          go_wp2_with fail
          refine (add_nil w7 _).mono ?_
          rintro e w8 ⟨rfl, rfl⟩
          go_wp2_with fail
          refine (hashSum_nil _ ht7).mono ?_
          rintro e w9 ⟨rfl, b9⟩
          have ht9 := ht7.below' b9
          have B9 := belowCall B7 b9
          clear b9
          go_wp2_with fail
          refine (sum_any _ ht9 _ (by decide)).mono ?_
          rintro e w10 ⟨rfl, b10⟩
          have ht10 := ht9.below' b10
          have B10 := belowCall B9 b10
          clear b10
          rw [show bs ⟨#[]⟩ = [] from rfl]
          go_wp2_with fail
          refine (len_nil _).mono ?_
          rintro e w11 ⟨rfl, rfl⟩
          go_wp2_with fail
          refine (copy_nil _).mono ?_
          rintro e w12 ⟨rfl, rfl⟩
          go_wp2_with fail
          refine (sum_any _ ht10 _ (by decide)).mono ?_
          rintro e w13 ⟨rfl, b13⟩
          have B13 := belowCall B10 b13
          have h32 : (ofBs (Sha.digest (bs ⟨#[97]⟩))).size = 32 := by rw [ofBs_size, digest_length]
          clear b13
          go_wp2_with fail
          go_light
          go_ret
          exact ⟨rfl, B13⟩
end Go.Proofs.YtpddjbiajagkaaaDoor
