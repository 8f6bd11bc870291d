/- The contract of works: the examples are as they are told. -/
import Derived.Test.YtpddjbiajagkaaaDoorBegins
import Derived.Test.YtpddjbiajagkaaaDoorFacts
namespace Go.Proofs.YtpddjbiajagkaaaDoor
open Go.RowKit
theorem begins0 (w : World) (ht : Tabs w) : Calls Tryd.prog 8 #[.string ⟨#[]⟩, .string ⟨#[101, 51, 98, 48, 99, 52, 52, 50, 57, 56, 102, 99, 49, 99, 49, 52]⟩, .string ⟨#[55, 56, 53, 50, 98, 56, 53, 53]⟩] w fun e w' => e = .returned (.bool true) ∧ Below w.heap.size w w' :=
  begins_true _ _ _ (by decide) (by decide) (by decide) w ht (by rw [show bs ⟨#[]⟩ = [] from rfl]; exact facts0.1) (by rw [show bs ⟨#[]⟩ = [] from rfl]; exact facts0.2)
theorem begins1 (w : World) (ht : Tabs w) : Calls Tryd.prog 8 #[.string ⟨#[97, 98, 99]⟩, .string ⟨#[98, 97, 55, 56, 49, 54, 98, 102, 56, 102, 48, 49, 99, 102, 101, 97]⟩, .string ⟨#[102, 50, 48, 48, 49, 53, 97, 100]⟩] w fun e w' => e = .returned (.bool true) ∧ Below w.heap.size w w' :=
  begins_true _ _ _ (by decide) (by decide) (by decide) w ht (by rw [show bs ⟨#[97, 98, 99]⟩ = [97, 98, 99] from rfl]; exact facts1.1) (by rw [show bs ⟨#[97, 98, 99]⟩ = [97, 98, 99] from rfl]; exact facts1.2)
theorem begins2 (w : World) (ht : Tabs w) : Calls Tryd.prog 8 #[.string (ofBs (List.replicate 1000 97)), .string ⟨#[52, 49, 101, 100, 101, 99, 101, 52]⟩, .string ⟨#[]⟩] w fun e w' => e = .returned (.bool true) ∧ Below w.heap.size w w' := by
  have hb : bs (ofBs (List.replicate 1000 97)) = List.replicate 1000 97 := bs_ofBs _ (fun x hx => by rw [List.eq_of_mem_replicate hx]; decide)
  exact begins_true _ _ _ (by rw [ofBs_size, List.length_replicate]; decide) (by decide) (by decide) w ht (by rw [hb]; exact facts2.1) (by rw [hb]; exact facts2.2)
theorem unhex_no (s : ByteArray) (hs : s.size ≤ 900000000000) (h : ¬ Sha.isHex (bs s)) (w : World) : Calls Tryd.prog 15 #[.string s] w fun e w' => e = .returned (.tuple #[.string ⟨#[]⟩, .int .i64 4]) ∧ Below w.heap.size w w' := by
  refine (unhex_any s hs w).mono ?_
  rintro e w' ⟨h1 | h1, h2⟩
  · exact absurd h1.1 h
  · exact ⟨h1.2, h2⟩
theorem unhex_yes (s : ByteArray) (hs : s.size ≤ 900000000000) (h : Sha.isHex (bs s)) (w : World) : Calls Tryd.prog 15 #[.string s] w fun e w' => e = .returned (.tuple #[.string (ofBs (Sha.unhex (bs s))), .int .i64 0]) ∧ Below w.heap.size w w' := by
  refine (unhex_any s hs w).mono ?_
  rintro e w' ⟨h1 | h1, h2⟩
  · exact ⟨h1.2, h2⟩
  · exact absurd h h1.1
theorem hex_00ff (w : World) : Calls Tryd.prog 19 #[.string ⟨#[0, 255]⟩] w fun e w' => e = .returned (.string ⟨#[48, 48, 102, 102]⟩) ∧ Below w.heap.size w w' := by
  refine (hex_any _ (by decide) w).mono ?_
  rintro e w' ⟨rfl, h⟩
  exact ⟨by rw [show ofBs (Sha.hex (bs ⟨#[0, 255]⟩)) = ⟨#[48, 48, 102, 102]⟩ from by decide +kernel], h⟩
theorem many_lit (n c : Int) (m d : Nat) (hn : n = m) (hc : c = d) (hm : m ≤ 1000000) (w : World) :
    Calls Tryd.prog 13 #[.int .i64 n, .int .u8 c] w fun e w' => e = .returned (.string (ofBs (List.replicate m d))) ∧ Below w.heap.size w w' := by
  subst hn hc; exact many_any m d hm w
set_option maxRecDepth 20000 in
set_option maxHeartbeats 1000000 in
theorem works_true (w : World) (ht : Tabs w) : Calls Tryd.prog 7 #[] w fun e w' => e = .returned (.bool true) ∧ Below w.heap.size w w' := by
  have hno : Hid (¬ Sha.isHex (bs ⟨#[48, 70]⟩)) := fun h => absurd (h.2 1 (by decide)) (by decide)
  go_enter Tryd.func7, Tryd.ntmps7
  go_wp2_with fail
  refine (unhex_no _ (by decide) hno.out w).mono ?_
  rintro e w1 ⟨rfl, b1⟩
  have ht1 := ht.below' b1
  go_wp2_with fail
  refine (begins0 _ ht1).mono ?_
  rintro e w2 ⟨rfl, b2⟩
  have ht2 := ht1.below' b2
  go_wp2_with fail
  refine (begins1 _ ht2).mono ?_
  rintro e w3 ⟨rfl, b3⟩
  have ht3 := ht2.below' b3
  go_wp2_with fail
  refine (many_lit _ _ 1000 97 rfl rfl (by decide) _).mono ?_
  rintro e w4 ⟨rfl, b4⟩
  have ht4 := ht3.below' b4
  go_wp2_with fail
  refine (begins2 _ ht4).mono ?_
  rintro e w5 ⟨rfl, b5⟩
  go_wp2_with fail
  refine (hex_00ff _).mono ?_
  rintro e w6 ⟨rfl, b6⟩
  go_wp2_with fail
  go_ret
  exact ⟨rfl, belowCall (belowCall (belowCall (belowCall (belowCall b1 b2) b3) b4) b5) b6⟩
end Go.Proofs.YtpddjbiajagkaaaDoor
