/- The contract of Read. -/
import Derived.Test.YtnhakbpalfcmfaaDoorSTaken
namespace Go.Proofs.YtnhakbpalfcmfaaDoor
open Go.RowKit
/-- whether data of that name are a shard's -/
def rdOk (a s : ByteArray) : Bool := decide (75 ≤ s.size) && (decide (mkE (fB s 4) (fB s 5) (fD s) (fB s 6) (fP s) = 0) && (decide (mkN (fB s 4) (fB s 5) (fD s) (fB s 6) (fP s) = a) && decide (mkD (fB s 4) (fB s 5) (fD s) (fB s 6) (fP s) = s)))
/-- what Read tells -/
def rdV (a s : ByteArray) : Value := if rdOk a s then .tuple #[.agg (shc (fB s 4) (fB s 5) (fD s) (fB s 6) (fP s)), .int .i64 0] else .tuple #[.agg noS, .int .i64 4]
set_option maxRecDepth 20000 in
theorem read_long (a s : ByteArray) (h : s.size < 75 ∨ 65536 < s.size) (w : World) :
    Calls Tryd.prog 9 #[obv a s] w fun e w' => e = .returned (.tuple #[.agg noS, .int .i64 4]) ∧ Below w.heap.size w w' := by
  unfold obv
  go_enter Tryd.func9, Tryd.ntmps9
  obtain ⟨h1, h2, h3, h4⟩ := two_new w #[.string a, .string s] noS 27 25
  by_cases q : s.size < 75
  · have q0 : (s.size : Int) < 75 := by omega
    go_wp2_with fail
    exact ret_shard Tryd.results9 rfl rfl rfl h2 ⟨rfl, h3⟩
  · have q0 : ¬ (s.size : Int) < 75 := by omega
    have q1 : (65536 : Int) < (s.size : Int) := by omega
    go_wp2_with fail
    exact ret_shard Tryd.results9 rfl rfl rfl h2 ⟨rfl, h3⟩
/-- the memory of Read: the object, and the shard that is told -/
structure RdW (a s : ByteArray) (w W : World) : Prop where
  ho : Has W w.heap.size #[.string a, .string s] 27
  hr : Has W (w.heap.size + 1) noS 25
  bl : Below w.heap.size w W
theorem RdW.start (w : World) (a s : ByteArray) {W : World} (h : Below ((w.alloc (.cells #[.string a, .string s] 27)).alloc (.cells noS 25)).heap.size ((w.alloc (.cells #[.string a, .string s] 27)).alloc (.cells noS 25)) W) : RdW a s w W := by
  obtain ⟨h1, h2, h3, h4⟩ := two_new w #[.string a, .string s] noS 27 25
  exact ⟨h1.below h (by omega), h2.below h (by omega), belowCall h3 h⟩
theorem RdW.next {a s : ByteArray} {w W W' : World} (h : RdW a s w W) (hb : Below W.heap.size W W') : RdW a s w W' :=
  ⟨h.ho.below hb h.ho.lt, h.hr.below hb h.hr.lt, belowCall h.bl hb⟩
set_option maxRecDepth 20000 in
theorem read_mid (a s : ByteArray) (h1 : 75 ≤ s.size) (h2 : s.size ≤ 65536) (w : World) (hl : Lay w) :
    Calls Tryd.prog 9 #[obv a s] w fun e w' => e = .returned (rdV a s) ∧ Below w.heap.size w w' := by
  have q0 : ¬ (s.size : Int) < 75 := by omega
  have q1 : ¬ (65536 : Int) < (s.size : Int) := by omega
  have HM : Hid (∀ w, Lay w → Calls Tryd.prog 7 #[.agg (shc (fB s 4) (fB s 5) (fD s) (fB s 6) (fP s))] w fun e w' => e = .returned (.tuple #[.agg #[.string (mkN (fB s 4) (fB s 5) (fD s) (fB s 6) (fP s)), .string (mkD (fB s 4) (fB s 5) (fD s) (fB s 6) (fP s))], .int .i64 (mkE (fB s 4) (fB s 5) (fD s) (fB s 6) (fP s))]) ∧ Below w.heap.size w w') := fun w hl => make_any _ _ _ _ _ w hl
  have HT : Hid (∀ w, Calls Tryd.prog 21 #[.string s] w fun e w' => e = .returned (.agg (shc (fB s 4) (fB s 5) (fD s) (fB s 6) (fP s))) ∧ Below w.heap.size w w') := fun w => taken_any s h1 (by omega) w
  have HR : Hid (rdV a s = if (mkE (fB s 4) (fB s 5) (fD s) (fB s 6) (fP s) = 0 ∧ mkN (fB s 4) (fB s 5) (fD s) (fB s 6) (fP s) = a ∧ mkD (fB s 4) (fB s 5) (fD s) (fB s 6) (fP s) = s) then .tuple #[.agg (shc (fB s 4) (fB s 5) (fD s) (fB s 6) (fP s)), .int .i64 0] else .tuple #[.agg noS, .int .i64 4]) := by
    unfold Hid rdV rdOk
    simp only [h1, decide_true, Bool.true_and, Bool.and_eq_true, decide_eq_true_eq]
  rw [HR.out]
  clear HR
  generalize mkN (fB s 4) (fB s 5) (fD s) (fB s 6) (fP s) = X at *
  generalize mkD (fB s 4) (fB s 5) (fD s) (fB s 6) (fP s) = Y at *
  generalize mkE (fB s 4) (fB s 5) (fD s) (fB s 6) (fP s) = E at *
  generalize fB s 4 = K at *
  generalize fB s 5 = N at *
  generalize fB s 6 = i at *
  generalize fD s = d at *
  generalize fP s = p at *
  unfold obv
  go_enter Tryd.func9, Tryd.ntmps9
  go_wp2_with fail
  refine (HT.out _).mono ?_
  rintro e w1 ⟨rfl, b1⟩
  have R1 : RdW a s w w1 := RdW.start w a s b1
  clear b1 HT
  unfold shc
  go_wp2_with fail
  have b1 : Below w1.heap.size w1 (w1.alloc (.cells (shc K N d i p) 25)) := (Below.refl _ _).alloc (Nat.le_refl _) _
  have R2 := R1.next b1
  have S2 : Has (w1.alloc (.cells (shc K N d i p) 25)) w1.heap.size (shc K N d i p) 25 := Has.new _ _ _ _ rfl
  refine (HM.out _ (hl.below R2.bl)).mono ?_
  rintro e w2 ⟨rfl, b2⟩
  have R3 := R2.next b2
  have S3 := S2.below b2 S2.lt
  clear b2 b1 R2 S2 R1 HM
  have o0 := fun o => (obj_cells (R3.ho.alloc o)).1
  have o1 := fun o => (obj_cells (R3.ho.alloc o)).2.1
  have c0 := fun o => (noS_cells (R3.hr.alloc o)).1
  have c1 := fun o => (noS_cells (R3.hr.alloc o)).2.1
  have c2 := fun o => (noS_cells (R3.hr.alloc o)).2.2.1
  have c3 := fun o => (noS_cells (R3.hr.alloc o)).2.2.2.1
  have c4 := fun o => (noS_cells (R3.hr.alloc o)).2.2.2.2.1
  have f0 := fun o => (R3.hr.alloc o).frozen 0
  have f1 := fun o => (R3.hr.alloc o).frozen 1
  have f2 := fun o => (R3.hr.alloc o).frozen 2
  have f3 := fun o => (R3.hr.alloc o).frozen 3
  have f4 := fun o => (R3.hr.alloc o).frozen 4
  have s0 := fun o => (shc_cells (S3.alloc o)).1
  have s1 := fun o => (shc_cells (S3.alloc o)).2.1
  have s2 := fun o => (shc_cells (S3.alloc o)).2.2.1
  have s3 := fun o => (shc_cells (S3.alloc o)).2.2.2.1
  have s4 := fun o => (shc_cells (S3.alloc o)).2.2.2.2
  have R4 := fun o => R3.next (W' := w2.alloc o) ((Below.refl _ _).alloc (Nat.le_refl _) o)
  by_cases hE : E = 0
  · subst hE
    by_cases hX : X = a
    · subst hX
      by_cases hY : Y = s
      · subst hY
        go_wp2_with fail
        exact ret_shard Tryd.results9 rfl rfl rfl (shc_put (R4 _).hr _ _ _ _ _) ⟨by first | rfl | (rw [if_neg (fun h => hE h.1)]; rfl), below_put5 (R4 _).bl (by omega) _ _ _ _ _⟩
      · have qY : (Y.toList == s.toList) = false := str_ne fun e => hY (bs_inj e)
        go_wp2_with fail
        exact ret_shard Tryd.results9 rfl rfl rfl (shc_put (R4 _).hr _ _ _ _ _) ⟨by first | rfl | (rw [if_neg (fun h => hE h.1)]; rfl), below_put5 (R4 _).bl (by omega) _ _ _ _ _⟩
    · have qX : (X.toList == a.toList) = false := str_ne fun e => hX (bs_inj e)
      go_wp2_with fail
      exact ret_shard Tryd.results9 rfl rfl rfl (shc_put (R4 _).hr _ _ _ _ _) ⟨by first | rfl | (rw [if_neg (fun h => hE h.1)]; rfl), below_put5 (R4 _).bl (by omega) _ _ _ _ _⟩
  · have qE : (E != 0) = true := by rw [bne_iff_ne]; exact hE
    go_wp2_with fail
    exact ret_shard Tryd.results9 rfl rfl rfl (shc_put (R4 _).hr _ _ _ _ _) ⟨by first | rfl | (rw [if_neg (fun h => hE h.1)]; rfl), below_put5 (R4 _).bl (by omega) _ _ _ _ _⟩
/-- READ. -/
theorem read_any (a s : ByteArray) (w : World) (hl : Lay w) :
    Calls Tryd.prog 9 #[obv a s] w fun e w' => e = .returned (rdV a s) ∧ Below w.heap.size w w' := by
  by_cases h : 75 ≤ s.size ∧ s.size ≤ 65536
  · exact read_mid a s h.1 h.2 w hl
  · have e : rdV a s = .tuple #[.agg noS, .int .i64 4] := by
      unfold rdV
      rw [if_neg]
      intro hk
      unfold rdOk at hk
      simp only [Bool.and_eq_true, decide_eq_true_eq] at hk
      apply h
      refine ⟨hk.1, ?_⟩
      have h0 := hk.2.1
      unfold mkE at h0
      split at h0
      · split at h0
        · rename_i hp
          unfold fP at hp
          rw [ByteArray.size_extract] at hp
          omega
        · cases h0
      · cases h0
    rw [e]
    exact read_long a s (by omega) w
end Go.Proofs.YtnhakbpalfcmfaaDoor
