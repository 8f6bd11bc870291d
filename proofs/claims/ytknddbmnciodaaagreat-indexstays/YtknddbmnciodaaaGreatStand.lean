/- The contract of the program's standing: where a digest stands, by halves. -/
import Derived.Test.YtknddbmnciodaaaGreatLib
import Derived.Test.YtknddbmnciodaaaGreatRise
namespace Go.Proofs.YtknddbmnciodaaaGreat
open Go.RowKit Go.Lib Go.Sort
open Ix
set_option linter.unusedVariables false
theorem cnt_range (q : Nat → Bool) : ∀ n, (∀ a b, a ≤ b → b < n → q b = true → q a = true) → (List.range n).countP q ≤ n ∧ ∀ j, j < n → (q j = true ↔ j < (List.range n).countP q)
  | 0, _ => ⟨by simp, fun j hj => absurd hj (Nat.not_lt_zero _)⟩
  | n + 1, h => by
    obtain ⟨h1, h2⟩ := cnt_range q n fun a b hab hb => h a b hab (by omega)
    rw [List.range_succ, List.countP_append, List.countP_singleton]
    cases hq : q n with
    | true =>
      have hall : (List.range n).countP q = n := by
        cases n with
        | zero => rfl
        | succ m =>
          have := (h2 m (by omega)).1 (h m (m + 1) (by omega) (by omega) hq)
          omega
      rw [hall]
      refine ⟨by simp, fun j hj => ⟨fun _ => by simp; omega, fun _ => ?_⟩⟩
      exact h j n (by omega) (by omega) hq
    | false =>
      refine ⟨by simp; omega, fun j hj => ?_⟩
      by_cases e : j = n
      · subst e
        simp [hq]; exact h1
      · rw [h2 j (by omega)]; simp
/-- is it among them? -/
def inC (C : List ByteArray) (d : ByteArray) : Bool := C.any fun x => decide (x = d)
theorem inC_iff (C : List ByteArray) (d : ByteArray) : inC C d = true ↔ d ∈ C := by unfold inC; simp
theorem inC_yes {C : List ByteArray} {d : ByteArray} (h : d ∈ C) : inC C d = true := (inC_iff C d).2 h
theorem inC_no {C : List ByteArray} {d : ByteArray} (h : d ∉ C) : inC C d = false := by
  cases hb : inC C d with
  | false => rfl
  | true => exact absurd ((inC_iff C d).1 hb) h
/-- what stands above, of texts that rise -/
theorem rise_lt {C : List ByteArray} (h : RiseK C) {a b : Nat} (hab : a < b) (hb : b < C.length) : lt (C.getD a ⟨#[]⟩) (C.getD b ⟨#[]⟩) = true := by
  have := List.pairwise_iff_getElem.1 h a b (by omega) hb hab
  rw [List.getD_eq_getElem?_getD, List.getD_eq_getElem?_getD, List.getElem?_eq_getElem hb, List.getElem?_eq_getElem (by omega)]
  exact this
set_option maxHeartbeats 4000000 in
theorem stands1_any (C : List ByteArray) (A : Option Addr) (c : Nat) (d : ByteArray) (B1 B2 i : Nat) (hi : i < C.length) (hn : C.length ≤ 100000) (W : World) (hC : Tx W A C)
    (h1 : W.cell? ⟨B1, 0, none⟩ = some (.slice A C.length c)) (h2 : W.cell? ⟨B2, 0, none⟩ = some (.string d)) :
    Calls Tryz.prog 55 #[.int .i64 (i : Int), .pointer (some ⟨B1, 0, none⟩), .pointer (some ⟨B2, 0, none⟩)] W fun e w' => e = .returned (.bool (!lt (C.getD i ⟨#[]⟩) d)) ∧ ∃ q, w' = W.drewN q := by
  obtain ⟨g, o, rfl, hg, hc⟩ := hC i hi
  have hb := bl (C.getD i ⟨#[]⟩) d
  generalize C.getD i ⟨#[]⟩ = x at *
  generalize C.length = n at *
  have j0 : (0 : Int) ≤ (i : Int) := by omega
  have j1 : (i : Int) < (n : Int) := by omega
  clear hC
  generalize lt x d = r at *
  go_enter Tryz.func55, Tryz.ntmps55
  go_wp2_with fail
  go_quiet (fail)
  go_wp2_with fail
  go_ret
  exact ⟨rfl, _, rfl⟩
set_option maxHeartbeats 4000000 in
theorem standing_any (C : List ByteArray) (A : Option Addr) (c : Nat) (d : ByteArray) (hr : RiseK C) (hn : C.length ≤ 100000) (w : World) (hC : Tx w A C) :
    Calls Tryz.prog 32 #[.slice A C.length c, .string d] w fun e w' => (∃ i : Nat, e = .returned (.tuple #[.int .i64 (i : Int), .bool (inC C d)]) ∧ (d ∈ C → i < C.length ∧ C.getD i ⟨#[]⟩ = d)) ∧ Below w.heap.size w w' := by
  obtain ⟨w1, hw1⟩ : ∃ w1, w1 = (w.alloc (.cells #[.slice A C.length c] 29)).alloc (.cells #[.string d] 9) := ⟨_, rfl⟩
  have hB : Below w.heap.size w w1 := by rw [hw1]; exact ((Below.refl _ w).alloc (Nat.le_refl _) _).alloc (by simp) _
  have n1 : Has w1 w.heap.size #[.slice A C.length c] 29 := by rw [hw1]; exact (Has.new w _ _ _ rfl).alloc _
  have n2 : Has w1 (w.heap.size + 1) #[.string d] 9 := by rw [hw1]; exact Has.new _ _ _ _ (by simp)
  have hs : ∀ m os, Below w1.heap.size w1 (grow (w1.drewN m) os) := fun m os => below_grown_sl _ w1 m os (Nat.le_refl _)
  have hC1 := hC.below hB
  have eg : ∀ args w, (callFunc 55 args).run Tryz.prog w = .ok (.enter 55 args) w := enters_of Tryz.func55 (by kernel_rfl) rfl
  have hmono : ∀ a b, a ≤ b → b < C.length → (!lt (C.getD a ⟨#[]⟩) d) = true → (!lt (C.getD b ⟨#[]⟩) d) = true := fun a b hab hb h => by
    cases hh : lt (C.getD b ⟨#[]⟩) d with
    | false => rfl
    | true =>
      by_cases e : a = b
      · subst e; rw [hh] at h; cases h
      · rw [lt_trans (rise_lt hr (by omega) hb) hh] at h; cases h
  have hcon := Any.sort_Search Tryz.search 55 #[.pointer (some ⟨w.heap.size, 0, none⟩), .pointer (some ⟨w.heap.size + 1, 0, none⟩)] C.length (fun i => !lt (C.getD i ⟨#[]⟩) d) w1 eg (by omega) (fun m os i hi => by
      have h1 := n1.below (hs m os) n1.lt
      have h2 := n2.below (hs m os) n2.lt
      refine (stands1_any C A c d w.heap.size (w.heap.size + 1) i hi hn _ (hC1.below (hs m os)) (by rw [h1.cell]; rfl) (by rw [h2.cell]; rfl)).mono ?_
      rintro e w' ⟨he, q, rfl⟩
      exact ⟨he, q, #[], by rw [grow_empty]⟩) hmono
  change Calls Tryz.prog 54 _ _ _ at hcon
  have hcnt := cnt_range (fun i => !!lt (C.getD i ⟨#[]⟩) d) C.length fun a b hab hb h => by
    by_cases e : a = b
    · subst e; exact h
    · simp only [Bool.not_not] at *; exact lt_trans (rise_lt hr (by omega) hb) h
  generalize (List.range C.length).countP (fun i => !!lt (C.getD i ⟨#[]⟩) d) = k at *
  obtain ⟨hk, hj⟩ := hcnt
  have hmem : d ∈ C ↔ k < C.length ∧ C.getD k ⟨#[]⟩ = d := by
    constructor
    · intro hm
      obtain ⟨j, hjl, e⟩ := List.mem_iff_getElem.1 hm
      have ej : C.getD j ⟨#[]⟩ = d := by rw [List.getD_eq_getElem?_getD, List.getElem?_eq_getElem hjl]; exact e
      have h1 : ¬ j < k := fun h => by
        have := (hj j hjl).2 h
        simp only [Bool.not_not, ej, lt_irrefl] at this; cases this
      have h2 : ¬ k < j := fun h => by
        have h3 := rise_lt hr h hjl
        rw [ej] at h3
        have := (hj k (by omega)).1 (by simp only [Bool.not_not]; exact h3)
        omega
      have : j = k := by omega
      subst this; exact ⟨hjl, ej⟩
    · rintro ⟨h1, h2⟩
      rw [← h2]; exact getD_mem h1
  have HM := hid hmem
  have HC := hid hC1
  have HB := hid hB
  have HS := hid hs
  have HN1 := hid n1
  have HN2 := hid n2
  clear hj hmono hC hC1 hr hmem hB hs n1 n2
  go_enter Tryz.func32, Tryz.ntmps32
  have c1 : w1.cell? ⟨w.heap.size, 0, none⟩ = some (.slice A C.length c) := by rw [HN1.out.cell]; rfl
  go_wp2_with fail
  rw [← hw1]
  clear hw1
  go_wp2_with (go_at_call 54; refine hcon.mono ?_; rintro e w2 ⟨rfl, q, os, rfl⟩)
  have hb2 := HS.out q os
  have d1 : (grow (w1.drewN q) os).cell? ⟨w.heap.size, 0, none⟩ = some (.slice A C.length c) := by rw [(HN1.out.below hb2 HN1.out.lt).cell]; rfl
  have d2 : (grow (w1.drewN q) os).cell? ⟨w.heap.size + 1, 0, none⟩ = some (.string d) := by rw [(HN2.out.below hb2 HN2.out.lt).cell]; rfl
  have HB2 : Hid (Below w.heap.size w (grow (w1.drewN q) os)) := hid (HB.out.trans (hb2.mono HB.out.size))
  have HC2 : Hid (Tx (grow (w1.drewN q) os) A C) := hid (HC.out.below hb2)
  generalize grow (w1.drewN q) os = w3 at *
  clear hcon hb2 c1 HS HN1 HN2 HC HB
  by_cases hlt : k < C.length
  · obtain ⟨g, o, rfl, hg, hc⟩ := HC2.out k hlt
    have j0 : (0 : Int) ≤ (k : Int) := by omega
    have j1 : (k : Int) < (C.length : Int) := by omega
    by_cases hd : C.getD k ⟨#[]⟩ = d
    · have q1 := str_eq hd
      have HD := hid hd
      generalize hx : C.getD k ⟨#[]⟩ = x at hc q1
      clear hd hx
      generalize hl : C.length = n at *
      go_quiet (fail)
      go_wp2_with fail
      exact bodyPost_ret (v := .tuple #[.int .i64 (k : Int), .bool true]) (by simp [results, Tryz.results32, go_sem]) rfl ⟨⟨k, by rw [inC_yes (HM.out.2 ⟨by omega, HD.out⟩)], fun _ => by rw [hl]; exact HM.out.1 (HM.out.2 ⟨by omega, HD.out⟩)⟩, below_draws' HB2.out _⟩
    · have q1 := str_ne hd
      have HD := hid hd
      generalize hx : C.getD k ⟨#[]⟩ = x at hc q1
      clear hd hx
      generalize hl : C.length = n at *
      go_quiet (fail)
      go_wp2_with fail
      exact bodyPost_ret (v := .tuple #[.int .i64 (k : Int), .bool false]) (by simp [results, Tryz.results32, go_sem]) rfl ⟨⟨k, by rw [inC_no (fun h => HD.out (HM.out.1 h).2)], fun h => by rw [hl]; exact HM.out.1 h⟩, below_draws' HB2.out _⟩
  · have j1 : ¬ ((k : Int) < (C.length : Int)) := by omega
    have j2 : decide ((k : Int) < (C.length : Int)) = false := decide_eq_false j1
    have j3 : decide (k < C.length) = false := decide_eq_false hlt
    have HL := hid hlt
    generalize hl : C.length = n at *
    go_quiet (fail)
    go_wp2_with fail
    exact bodyPost_ret (v := .tuple #[.int .i64 (k : Int), .bool false]) (by simp [results, Tryz.results32, go_sem]) rfl ⟨⟨k, by rw [inC_no (fun h => by have := (HM.out.1 h).1; omega)], fun h => HM.out.1 h⟩, below_draws' HB2.out _⟩
end Go.Proofs.YtknddbmnciodaaaGreat

