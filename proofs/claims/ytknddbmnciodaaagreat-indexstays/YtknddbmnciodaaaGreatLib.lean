/- What is asked of the functions that are handed to the library (less by digest, by At, by pack and At; is it no digest, no place), and the library's contracts at them. -/
import Derived.Test.YtknddbmnciodaaaGreatShelf
import Derived.Test.YtknddbmnciodaaaGreatFun
namespace Go.Proofs.YtknddbmnciodaaaGreat
open Go.RowKit Go.Lib Go.Sort
open Ix
set_option linter.unusedVariables false
theorem cmpInt_any (x y : Int) (w : World) : Calls Tryz.prog 41 #[.int .i64 x, .int .i64 y] w fun e w' => e = .returned (.int .i64 (Lib.compareInt x y)) ∧ w' = w := AnyG.cmp_Compare_int Tryz.cmpInt x y w
theorem compareBytes_eq : ∀ (a b : List UInt8), Lib.compareBytes a b = if a < b then -1 else if b < a then 1 else 0
  | [], [] => by simp [Lib.compareBytes]
  | [], _ :: _ => by simp [Lib.compareBytes]
  | _ :: _, [] => by simp [Lib.compareBytes]
  | x :: r, y :: s => by
    rw [Lib.compareBytes, compareBytes_eq r s]
    by_cases h1 : x < y
    · have h2 : x :: r < y :: s := List.cons_lt_cons_iff.2 (.inl h1)
      rw [if_pos h1, if_pos h2]
    · rw [if_neg h1]
      by_cases h2 : y < x
      · have h3 : y :: s < x :: r := List.cons_lt_cons_iff.2 (.inl h2)
        have h4 : ¬ x :: r < y :: s := fun h => by
          rcases List.cons_lt_cons_iff.1 h with h | h
          · exact h1 h
          · rw [h.1] at h2; exact absurd h2 (UInt8.lt_irrefl _)
        rw [if_pos h2, if_neg h4, if_pos h3]
      · have e : x = y := UInt8.le_antisymm (UInt8.not_lt.1 h2) (UInt8.not_lt.1 h1)
        subst e
        rw [if_neg h2]
        have h5 : ∀ p q : List UInt8, (x :: p < x :: q) ↔ p < q := fun p q => by
          rw [List.cons_lt_cons_iff]
          exact ⟨fun h => h.elim (fun h => absurd h (UInt8.lt_irrefl _)) (fun h => h.2), fun h => .inr ⟨rfl, h⟩⟩
        simp only [h5]
theorem cmp_bytes (a b : ByteArray) : Lib.compareBytes a.data.toList b.data.toList = cmpS a b := by
  rw [compareBytes_eq]; unfold cmpS lt; simp only [decide_eq_true_eq]
theorem strCmp_any (a b : ByteArray) (w : World) : Calls Tryz.prog 51 #[.string a, .string b] w fun e w' => e = .returned (.int .i64 (cmpS a b)) ∧ w' = w := by
  have h := Any.strings_Compare Tryz.cmpStr a b w
  rw [cmp_bytes] at h; exact h
theorem cmpS_neg (a b : ByteArray) : decide (cmpS a b < 0) = lt a b := by
  unfold cmpS
  cases h : lt a b with
  | true => rfl
  | false => cases h2 : lt b a <;> rfl
theorem cmpS_zero (a b : ByteArray) : cmpS a b = 0 ↔ a = b := by
  unfold cmpS
  constructor
  · intro h
    cases h1 : lt a b with
    | true => rw [h1] at h; cases h
    | false =>
      cases h2 : lt b a with
      | true => rw [h1, h2] at h; cases h
      | false => exact lt_conn h1 h2
  · rintro rfl; simp [lt_irrefl]
theorem cmpI_neg (a b : Int) : decide (Lib.compareInt a b < 0) = decide (a < b) := by
  unfold Lib.compareInt
  by_cases h : a < b
  · simp [h]
  · by_cases h2 : a > b <;> simp [h, h2]
/-- by digest -/
def cfD (x y : En) : Int := cmpS x.1 y.1
/-- by At -/
def cfA (x y : En) : Int := Lib.compareInt x.2.at_ y.2.at_
/-- by pack, then by At -/
def cfP (x y : Pl) : Int := if cmpS x.pack y.pack = 0 then Lib.compareInt x.at_ y.at_ else cmpS x.pack y.pack
theorem ltD (x y : En) : ltOf cfD x y = lt x.1 y.1 := cmpS_neg _ _
theorem ltA (x y : En) : ltOf cfA x y = decide (x.2.at_ < y.2.at_) := cmpI_neg _ _
theorem ltP (x y : Pl) : ltOf cfP x y = Ix.ahead x y := by
  unfold ltOf cfP Ix.ahead
  by_cases h : cmpS x.pack y.pack = 0
  · rw [if_pos h, cmpI_neg]
    have e := (cmpS_zero _ _).1 h
    rw [e, lt_irrefl]; simp
  · rw [if_neg h, cmpS_neg]
    have e : ¬ x.pack = y.pack := fun e => h ((cmpS_zero _ _).2 e)
    simp [e]
theorem swoD : SWO (ltOf cfD) where
  irrefl x := by rw [ltD, lt_irrefl]
  trans x y z h1 h2 := by rw [ltD] at *; exact lt_trans h1 h2
  ntrans x y z h1 h2 := by
    rw [ltD] at *
    cases h : lt x.1 z.1 with
    | false => rfl
    | true =>
      cases h3 : lt y.1 x.1 with
      | true => rw [lt_trans h3 h] at h2; cases h2
      | false => rw [lt_conn h1 h3, h2] at h; cases h
theorem swoA : SWO (ltOf cfA) where
  irrefl x := by rw [ltA]; simp
  trans x y z h1 h2 := by rw [ltA] at *; simp at *; omega
  ntrans x y z h1 h2 := by rw [ltA] at *; simp at *; omega
theorem swoP : SWO (ltOf cfP) where
  irrefl x := by rw [ltP, ahead_irrefl]
  trans x y z h1 h2 := by rw [ltP] at *; exact ahead_yes h1 h2
  ntrans x y z h1 h2 := by rw [ltP] at *; exact ahead_trans h1 h2
theorem two_grow (W : World) (o p : Obj) : ∃ q os', (W.alloc o).alloc p = grow (W.drewN q) os' := ⟨0, _, by rw [alloc_eq_grow, alloc_eq_grow, grow_grow]; rfl⟩
theorem add1_any (x y : En) (W : World) : Calls Tryz.prog 23 #[.agg (ck4 x).toArray, .agg (ck4 y).toArray] W fun e w' => e = .returned (.int .i64 (cfD x y)) ∧ ∃ q os', w' = grow (W.drewN q) os' := by
  show Calls Tryz.prog 23 #[.agg #[.string x.1, .string x.2.pack, .int .i64 x.2.at_, .int .i64 x.2.len], .agg #[.string y.1, .string y.2.pack, .int .i64 y.2.at_, .int .i64 y.2.len]] W _
  have C1 := fun W => cmpStr_any x.1 y.1 W
  unfold cfD
  go_enter Tryz.func23, Tryz.ntmps23
  go_wp2_with (go_at_call 24; refine (C1 _).mono ?_; rintro e w' ⟨rfl, rfl⟩)
  go_ret
  exact ⟨rfl, two_grow _ _ _⟩
theorem of2_any (x y : En) (W : World) : Calls Tryz.prog 40 #[.agg (ck4 x).toArray, .agg (ck4 y).toArray] W fun e w' => e = .returned (.int .i64 (cfA x y)) ∧ ∃ q os', w' = grow (W.drewN q) os' := by
  show Calls Tryz.prog 40 #[.agg #[.string x.1, .string x.2.pack, .int .i64 x.2.at_, .int .i64 x.2.len], .agg #[.string y.1, .string y.2.pack, .int .i64 y.2.at_, .int .i64 y.2.len]] W _
  have C1 := fun W => cmpInt_any x.2.at_ y.2.at_ W
  unfold cfA
  go_enter Tryz.func40, Tryz.ntmps40
  go_wp2_with (go_at_call 41; refine (C1 _).mono ?_; rintro e w' ⟨rfl, rfl⟩)
  go_ret
  exact ⟨rfl, two_grow _ _ _⟩
end Go.Proofs.YtknddbmnciodaaaGreat

