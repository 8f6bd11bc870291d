/- The contract of May: whether chunks may be a pack. -/
import Derived.Test.YtjhjolnflkekoaaDoorSmall
namespace Go.Proofs.YtjhjolnflkekoaaDoor
open Go.RowKit Go.Maps
open Pk
set_option linter.unusedVariables false
/-- what the first ones of n chunks must be -/
structure Pre (n : Nat) (c : List (List Nat)) : Prop where
  each : Chunks c
  apart : c.Nodup
  room : n ≤ 1 ∨ total c ≤ 4096
theorem Pre.nil (n : Nat) : Pre n [] := ⟨fun x hx => absurd hx (by simp), List.nodup_nil, .inr (by simp [total])⟩
theorem Pre.init {n : Nat} {c d : List (List Nat)} (h : Pre n (c ++ d)) : Pre n c :=
  ⟨fun x hx => h.each x (by simp [hx]), (List.nodup_append.1 h.apart).1, h.room.imp id fun e => by rw [total_app] at e; omega⟩
theorem Pre.snoc {n : Nat} {c : List (List Nat)} {x : List Nat} : Pre n (c ++ [x]) ↔ Pre n c ∧ (1 ≤ x.length ∧ x.length ≤ 16384) ∧ x ∉ c ∧ (n ≤ 1 ∨ total c + x.length ≤ 4096) := by
  have e : total (c ++ [x]) = total c + x.length := by rw [total_app]; simp [total]
  constructor
  · intro h
    refine ⟨h.init, h.each x (by simp), fun hx => ?_, by rw [← e]; exact h.room⟩
    have := (List.nodup_append.1 h.apart).2.2 x hx x (by simp)
    exact this rfl
  · rintro ⟨h1, h2, h3, h4⟩
    refine ⟨fun y hy => ?_, List.nodup_append.2 ⟨h1.apart, by simp, fun a ha b hb => ?_⟩, by rw [e]; exact h4⟩
    · rcases List.mem_append.1 hy with hy | hy
      · exact h1.each y hy
      · have : y = x := by simpa using hy
        subst this; exact h2
    · have : b = x := by simpa using hb
      subst this
      intro e2; subst e2; exact h3 ha
theorem may_pre {c : List (List Nat)} : May c ↔ Pre c.length c ∧ 1 ≤ c.length := by
  constructor
  · intro h
    exact ⟨⟨h.each, h.apart, h.room.imp (fun e => by omega) id⟩, h.one⟩
  · rintro ⟨h1, h2⟩
    have := chunks_total h1.each
    refine ⟨h2, ?_, h1.each, h1.apart, h1.room.imp (fun e => by omega) id⟩
    rcases h1.room with e | e <;> omega
/-- may these texts be a pack? -/
noncomputable def mayB (l : List ByteArray) : Bool := @decide (May (l.map bs)) (Classical.propDecidable _)
theorem mayB_iff (l : List ByteArray) : mayB l = true ↔ May (l.map bs) := by unfold mayB; exact @decide_eq_true_iff _ (Classical.propDecidable _)
theorem mayB_yes {l : List ByteArray} (h : May (l.map bs)) : mayB l = true := (mayB_iff l).2 h
theorem mayB_no {l : List ByteArray} (h : ¬ May (l.map bs)) : mayB l = false := by
  cases e : mayB l with
  | false => rfl
  | true => exact absurd ((mayB_iff l).1 e) h
/-- the first k of them are well -/
def Well (l : List ByteArray) (k : Nat) : Prop := Pre l.length ((l.take k).map bs)
theorem Well.zero (l : List ByteArray) : Well l 0 := Pre.nil _
theorem well_next {l : List ByteArray} {k : Nat} (h : k < l.length) : Well l (k + 1) ↔ Well l k ∧ (1 ≤ (l.getD k ⟨#[]⟩).size ∧ (l.getD k ⟨#[]⟩).size ≤ 16384) ∧ inB (l.take k) (l.getD k ⟨#[]⟩) = false ∧ (l.length ≤ 1 ∨ tot (l.take (k + 1)) ≤ 4096) := by
  unfold Well
  have e : inB (l.take k) (l.getD k ⟨#[]⟩) = false ↔ bs (l.getD k ⟨#[]⟩) ∉ (l.take k).map bs := by
    rw [← inB_iff]; simp
  rw [take_next l k h, List.map_append, tot_snoc, e, List.map_singleton, Pre.snoc, bs_length]
  rfl
theorem Well.may {l : List ByteArray} (h : May (l.map bs)) (k : Nat) : Well l k := by
  have h1 := (may_pre.1 h).1
  rw [List.length_map] at h1
  have e : l.map bs = (l.take k).map bs ++ (l.drop k).map bs := by rw [← List.map_append, List.take_append_drop]
  rw [e] at h1
  exact h1.init
theorem Well.all {l : List ByteArray} (h : Well l l.length) : mayB l = decide (0 < l.length) := by
  unfold Well at h
  rw [List.take_length] at h
  by_cases h0 : 0 < l.length
  · rw [decide_eq_true h0]
    exact mayB_yes (may_pre.2 ⟨by rw [List.length_map]; exact h, by rw [List.length_map]; exact h0⟩)
  · rw [decide_eq_false h0]
    exact mayB_no (fun hm => h0 (by have := hm.one; rw [List.length_map] at this; exact this))
theorem not_well {l : List ByteArray} {k : Nat} (h : ¬ Well l k) : mayB l = false := mayB_no (fun hm => h (Well.may hm k))
set_option maxRecDepth 20000 in
set_option maxHeartbeats 2000000 in
theorem may_any (l : List ByteArray) (A : Option Addr) (cap : Nat) (w : World) (h : Tx w A l) (hl : l.length ≤ 1000000) (ht : tot l ≤ 100000000) :
    Calls Tryd.prog 28 #[.slice A l.length cap] w fun e w' => e = .returned (.bool (mayB l)) ∧ Below w.heap.size w w' := by
  have hmm := @run_makeMap Tryd.prog
  have hP0 := hid (SMap.made w)
  have bB : Below w.heap.size w (w.alloc (.map #[] 0)) := (Below.refl _ _).alloc (Nat.le_refl _) _
  obtain ⟨n, hn⟩ : ∃ n, n = l.length := ⟨_, rfl⟩
  have HN := hid hn
  rw [← hn] at hl ⊢
  have HL := hid h
  clear hn h
  go_enter Tryd.func28, Tryd.ntmps28
  go_wp2_with fail
  go_loopw [4, 6, 7, 8, 12] (fun v4 v6 v7 v8 v12 wr => ∃ k : Nat, k ≤ n ∧ v12 = .int .i64 (k : Int) ∧ v4 = .int .i64 (tot (l.take k) : Int) ∧ Hid (SMap wr w.heap.size (l.take k)) ∧ Hid (Well l k) ∧ Below w.heap.size w wr) (fun _ _ _ _ v12 _ => n - (intOf v12).toNat)
  case atStart => exact ⟨0, Nat.zero_le _, rfl, rfl, hP0, Well.zero l, bB⟩
  case round =>
    obtain ⟨k, hk, rfl, rfl, hP, hG, hB⟩ := hrel
    clear hP0 bB
    by_cases hlt : k < n
    · have hkl : k < l.length := by rw [← HN.out]; exact hlt
      obtain ⟨g, o, rfl, hg, c0⟩ := tx_cell HL.out hB hkl
      have hnx := hid (well_next hkl)
      have htk := tot_take l k hkl
      have htl := tot_take_le l (k + 1)
      have hsl := tot_le (getD_mem hkl)
      have hlook := hP.out.look (l.getD k ⟨#[]⟩) (by unfold maxLen; omega)
      have hmc : Hid (mcB (l.getD k ⟨#[]⟩) = decide (1 ≤ (l.getD k ⟨#[]⟩).size ∧ (l.getD k ⟨#[]⟩).size ≤ 16384)) := rfl
      have HTN := hid (take_next l k hkl)
      have htl1 : (l.take k).length = k := by rw [List.length_take]; omega
      have HPut : Hid (∀ W, Below wr.heap.size wr W → ∃ w', (Instr.mapUpdate 61 (.map (some w.heap.size)) (.string (l.getD k ⟨#[]⟩)) (.agg #[])).run Tryd.prog W = .ok () w' ∧ SMap w' w.heap.size (l.take (k + 1)) ∧ W.grownBy w' (some w.heap.size)) := fun W hW => by
        rw [HTN.out]
        exact (hP.out.below hW).put (by rw [htl1]; unfold maxLen; omega) _ (by unfold maxLen; omega)
      have hml := hP.out.lt
      obtain ⟨t1, ht1⟩ : ∃ t1, t1 = tot (l.take (k + 1)) := ⟨_, rfl⟩
      have HT1 := hid ht1
      rw [← ht1] at htk htl hnx
      generalize l.getD k ⟨#[]⟩ = s at *
      generalize tot (l.take k) = t at *
      have i1 : (k : Int) < (n : Int) := by omega
      have C := fun W => mayChunk_any s (by unfold maxLen; omega) W
      have wk : IntKind.i64.wrap ((k : Int) + 1) = ((k + 1 : Nat) : Int) := by rw [IntKind.wrap_i64]; omega
      have wt : IntKind.i64.wrap ((t : Int) + (s.size : Int)) = (t1 : Int) := by rw [IntKind.wrap_i64]; omega
      have hs2 : s.size ≤ 9223372036854775807 := by omega
      clear htl1 HTN ht1 htk htl hsl ht
      by_cases h1 : 1 ≤ s.size ∧ s.size ≤ 16384
      · rw [hmc.out, decide_eq_true h1] at C
        by_cases hn1 : n ≤ 1
        · have d1 : decide ((1 : Int) < (n : Int)) = false := by simp; omega
          have h2 : n ≤ 1 ∨ t1 ≤ 4096 := .inl hn1
          cases hin : inB (l.take k) s with
          | true =>
            rw [hin] at hlook
            have HF : Hid (mayB l = false) := hid (not_well (k := k + 1) (fun hw => by have := (hnx.out.1 hw).2.2.1; rw [hin] at this; cases this))
            clear hP hG hnx HPut hin
            go_wp2_with fail
            refine (C _).mono ?_
            rintro e w1 ⟨rfl, rfl⟩
            go_wp2_with fail
            go_ret
            exact ⟨by rw [HF.out]; rfl, (hB.alloc hB.size _)⟩
          | false =>
            rw [hin] at hlook
            have HW : Hid (Well l (k + 1)) := hid (hnx.out.2 ⟨hG.out, h1, hin, by rw [← HN.out]; exact h2⟩)
            clear hP hG hnx hin
            go_wp2_with fail
            refine (C _).mono ?_
            rintro e w1 ⟨rfl, rfl⟩
            clear C
            obtain ⟨w3, hput, hP3, hgr⟩ := HPut.out (w1.alloc (.cells #[] 62)) ((Below.refl _ _).alloc (Nat.le_refl _) _)
            have HP3 := hid hP3
            have hB3 : Below w.heap.size w w3 := (hB.alloc hB.size _).grown hgr (by have := hB.size; simp; omega) (fun j hj => by cases hj; exact Nat.le_refl _)
            clear HPut hP3 hgr
            go_wp2_with fail
            go_roundw
            case rel => exact ⟨k + 1, by omega, by rfl, by rw [← HT1.out], HP3.out, HW.out, hB3⟩
            case measure => first | (simp [intOf]; done) | (simp [intOf]; omega)
        · have d1 : decide ((1 : Int) < (n : Int)) = true := by simp; omega
          by_cases h3 : t1 ≤ 4096
          · have d2 : decide ((4096 : Int) < (t1 : Int)) = false := by simp; omega
            have h2 : n ≤ 1 ∨ t1 ≤ 4096 := .inr h3
            cases hin : inB (l.take k) s with
            | true =>
              rw [hin] at hlook
              have HF : Hid (mayB l = false) := hid (not_well (k := k + 1) (fun hw => by have := (hnx.out.1 hw).2.2.1; rw [hin] at this; cases this))
              clear hP hG hnx HPut hin
              go_wp2_with fail
              refine (C _).mono ?_
              rintro e w1 ⟨rfl, rfl⟩
              go_wp2_with fail
              go_ret
              exact ⟨by rw [HF.out]; rfl, (hB.alloc hB.size _)⟩
            | false =>
              rw [hin] at hlook
              have HW : Hid (Well l (k + 1)) := hid (hnx.out.2 ⟨hG.out, h1, hin, by rw [← HN.out]; exact h2⟩)
              clear hP hG hnx hin
              go_wp2_with fail
              refine (C _).mono ?_
              rintro e w1 ⟨rfl, rfl⟩
              clear C
              obtain ⟨w3, hput, hP3, hgr⟩ := HPut.out (w1.alloc (.cells #[] 62)) ((Below.refl _ _).alloc (Nat.le_refl _) _)
              have HP3 := hid hP3
              have hB3 : Below w.heap.size w w3 := (hB.alloc hB.size _).grown hgr (by have := hB.size; simp; omega) (fun j hj => by cases hj; exact Nat.le_refl _)
              clear HPut hP3 hgr
              go_wp2_with fail
              go_roundw
              case rel => exact ⟨k + 1, by omega, by rfl, by rw [← HT1.out], HP3.out, HW.out, hB3⟩
              case measure => first | (simp [intOf]; done) | (simp [intOf]; omega)
          · have d2 : decide ((4096 : Int) < (t1 : Int)) = true := by simp; omega
            have HF : Hid (mayB l = false) := hid (not_well (k := k + 1) (fun hw => by have := (hnx.out.1 hw).2.2.2; rw [← HN.out] at this; omega))
            clear hP hG hnx hlook HPut
            go_wp2_with fail
            refine (C _).mono ?_
            rintro e w1 ⟨rfl, rfl⟩
            go_wp2_with fail
            go_ret
            exact ⟨by rw [HF.out]; rfl, hB⟩
      · rw [hmc.out, decide_eq_false h1] at C
        have HF : Hid (mayB l = false) := hid (not_well (k := k + 1) (fun hw => h1 (hnx.out.1 hw).2.1))
        clear hP hG hnx hlook HPut
        go_wp2_with fail
        refine (C _).mono ?_
        rintro e w1 ⟨rfl, rfl⟩
        go_wp2_with fail
        go_ret
        exact ⟨by rw [HF.out]; rfl, hB⟩
    · obtain rfl : k = n := by omega
      have q1 : ¬ ((k : Int) < (k : Int)) := by omega
      have HF : Hid (mayB l = decide (0 < k)) := hid (by rw [HN.out]; exact Well.all (by rw [← HN.out]; exact hG.out))
      clear hP hG
      by_cases h0 : 0 < k
      · have d0 : decide ((0 : Int) < (k : Int)) = true := by simp; omega
        go_wp2_with fail
        go_ret
        exact ⟨by rw [HF.out, decide_eq_true h0]; rfl, hB⟩
      · have d0 : decide ((0 : Int) < (k : Int)) = false := by simp; omega
        go_wp2_with fail
        go_ret
        exact ⟨by rw [HF.out, decide_eq_false h0]; rfl, hB⟩
end Go.Proofs.YtjhjolnflkekoaaDoor
