/- IndexStays answers yes for every state, all digests and all places, and leaves them as they were: what Add and Drop tell may be; what was added is found, what was dropped is not, all others stand where they stood; Drop of what was added is as it was; the chunks of all packs, put together, are all chunks, each once. No condition. -/
import Derived.Test.YtknddbmnciodaaaGreatRows
import Derived.Test.YtknddbmnciodaaaGreatStays
import Derived.Test.YtknddbmnciodaaaGreatOpen
import Derived.HandedShaped
namespace Go.Proofs.YtknddbmnciodaaaGreat.indexStays
open Go.ChangeShapes Go.WideShapes Go.ChangeAt Go.RowKit Go.Joins Go.WideMaps Go.WideElems
open Go.ChangeMaps (open_string shut_string)
open Ix
set_option linter.unusedVariables false
set_option maxRecDepth 100000 in
set_option maxHeartbeats 2000000 in
theorem lifted (os : Os) (started : os.Started) (H : Type) (enc : TypeId × Value → H) :
    ReturnsInHanded {} Tryz.checked os 4 .any (Rows.indexStaysSpec.pre6 enc Tryz.prog Tryz.f4 Rows.indexStaysRow.domain false) (Rows.indexStaysSpec.post enc Tryz.prog Tryz.f4 false true false false) := by
  refine returnsInHanded_of_change_shaped (C := Tryz.checked) own started (by kernel_rfl) Tryz.func4
    (ChangeSpec.witness6 (enc := enc) (C := Tryz.checked) false ⟨#[], #[.agg #[.int .i64 0, .int .i64 0, .int .i64 0, .slice none 0 0, .slice none 0 0, .slice none 0 0], .slice none 0 0, .slice none 0 0], []⟩ 8 (by kernel_rfl) (by kernel_rfl) (by kernel_rfl) (by kernel_rfl)) ?_
  intro W base args ds gs before hval0 hW hcnd hsz0 _ _
  have hval : ∀ (j : Nat) t v, Tryz.f4.params[j]? = some t → args[j]? = some v → Value.okWide Tryz.prog W .any base t v := hval0
  have hW' := hW
  obtain ⟨p, q, hA0, hV, rfl, hfz, hnd⟩ := hW
  have hA : DataW.TrodAll enc Tryz.prog W 0 (fun _ => true) true Tryz.f4.params.toList args.toList ds p := hA0
  have hszA : (DataW.weightsEach Tryz.prog (Tryz.f4.params.toList ++ Rows.indexStaysSpec.plain.varTypes Tryz.prog) (ds ++ gs)).all (· ≤ reachBytes) = true := hsz0
  rw [Tryz.params4] at hA hval hszA
  obtain ⟨v0, vs0, d0, ds0, p0, q0, hargs, rfl, rfl, h0, r0⟩ := trodAll_cons hA
  obtain ⟨v1, vs1, d1, ds1, p1, q1, rfl, rfl, rfl, h1, r1⟩ := trodAll_cons r0
  obtain ⟨v2, vs2, d2, ds2, p2, q2, rfl, rfl, rfl, h2, r2⟩ := trodAll_cons r1
  obtain ⟨rfl, rfl, rfl⟩ := trodAll_nil r2
  obtain rfl : args = #[v0, v1, v2] := Array.toList_inj.1 (by rw [hargs])
  obtain ⟨rfl, rfl⟩ := trodVars_none hV
  have hw0 : ∀ n ∈ d0.weights Tryz.prog 35, n ≤ reachBytes := fun n hn => by
    have := List.all_eq_true.1 hszA _ (DataW.weights_mem_each (j := 0) rfl rfl n hn)
    simpa using this
  have hw1 : ∀ n ∈ d1.weights Tryz.prog 29, n ≤ reachBytes := fun n hn => by
    have := List.all_eq_true.1 hszA _ (DataW.weights_mem_each (j := 1) rfl rfl n hn)
    simpa using this
  have hw2 : ∀ n ∈ d2.weights Tryz.prog 30, n ≤ reachBytes := fun n hn => by
    have := List.all_eq_true.1 hszA _ (DataW.weights_mem_each (j := 2) rfl rfl n hn)
    simpa using this
  obtain ⟨s, a0, a1, a2, c0, c1, c2, rfl, hh⟩ := open_state (hval 0 35 v0 rfl rfl) h0 hw0
  obtain ⟨D, B1, e1, rfl, hD, zD⟩ : ∃ (D : List ByteArray) (B1 : Option Addr) (e1 : Nat), v1 = .slice B1 D.length e1 ∧ Tx W B1 D ∧ D.length ≤ reachBytes := by
    obtain ⟨x0, y0, z0, rfl⟩ := okWide_slice Tryz.underlying29 (hval 1 29 v1 rfl rfl)
    obtain ⟨fuel, hf⟩ := h1
    obtain ⟨A1, l1, c1', e3, q1', z1, o1, r1'⟩ := @open_rows _ _ _ _ _ _ _ ⟨⟨#[]⟩⟩ _ _ _ _ (fun a : ByteArray => [Value.string a]) _ (fun _ => rfl) (by decide) Tryz.underlying29 cells9 bytes9 (by decide) open_txt _ _ _ hf hw1
    simp [Value.cells] at e3
    obtain ⟨rfl, rfl, rfl⟩ := e3
    exact ⟨l1, _, _, rfl, tx_of_rows r1', z1⟩
  obtain ⟨Q, B2, e2, rfl, hQ, zQ⟩ : ∃ (Q : List Pl) (B2 : Option Addr) (e2 : Nat), v2 = .slice B2 Q.length e2 ∧ Ps W B2 Q ∧ Q.length ≤ reachBytes := by
    obtain ⟨x0, y0, z0, rfl⟩ := okWide_slice Tryz.underlying30 (hval 2 30 v2 rfl rfl)
    obtain ⟨fuel, hf⟩ := h2
    obtain ⟨A1, l1, c1', e3, q1', z1, o1, r1'⟩ := open_rows pl3 _ (fun _ => rfl) (by decide) Tryz.underlying30 cells37 bytes37 (by decide) open_place hf hw2
    simp [Value.cells] at e3
    obtain ⟨rfl, rfl, rfl⟩ := e3
    exact ⟨l1, _, _, rfl, ps_of_rows r1', z1⟩
  clear hA0 hval0
  simp only [List.append_nil] at hW'
  have hlt : ∀ x ∈ p0 ++ (p1 ++ p2), x.block < W.heap.size := fun x hx => by simpa using hW'.lt x (by simpa using hx)
  have hl0 := hh.l0
  have hl1 := hh.l1
  have hl2 := hh.l2
  have hrt : ∀ x ∈ s.sn, x.root.size ≤ 281474976710656 := fun x hx => by have := (hh.sns x hx).1; unfold reachBytes at this; omega
  unfold reachBytes at hl0 hl1 hl2 zD zQ
  refine (stays_walk s a0 a1 a2 B1 B2 c0 c1 c2 e1 e2 D Q (by omega) (by omega) (by omega) (by omega) (by omega) hrt W hh.sn hh.tx hh.ps hD hQ).mono fun e W' ⟨he, hg⟩ => ?_
  subst he
  exact ⟨_, rfl, _, _, _, [], p0 ++ (p1 ++ (p2 ++ [])), [], hW', trodAll_cons_mk (shut_bool Tryz.underlying4 _) trodAll_mk0,
    (trodAll_cons_mk (Below.trod laidOut (by kernel_rfl) (of_decide_eq_true (by kernel_rfl)) h0 hg (fun x hx => hlt x (by simp [hx]))) (trodAll_cons_mk (Below.trod laidOut (by kernel_rfl) (of_decide_eq_true (by kernel_rfl)) h1 hg (fun x hx => hlt x (by simp [hx]))) (trodAll_cons_mk (Below.trod laidOut (by kernel_rfl) (of_decide_eq_true (by kernel_rfl)) h2 hg (fun x hx => hlt x (by simp [hx]))) trodAll_mk0))), rfl, hg.frame _, fun h => by cases h⟩
theorem over : Rows.indexStaysRow.holds Tryz.pinned (OpenSpec.ofChange Rows.indexStaysSpec) :=
  OpenClaim.holds_of_wide 4 Tryz.f4 rfl rfl rfl rfl rfl rfl rfl ⟨rfl, rfl, rfl, rfl, rfl⟩ rfl rfl rfl rfl rfl (by kernel_rfl) Tryz.func4 (by kernel_rfl)
    (of_decide_eq_true (by kernel_rfl)) (by unfold Func.isWrapper; first | (rw [if_pos (by decide +kernel)]; kernel_rfl) | (rw [if_neg (by decide +kernel)]; exact ⟨rfl, rfl⟩))
    (fun os started H enc _ => lifted os started H enc)
end Go.Proofs.YtknddbmnciodaaaGreat.indexStays
namespace Go.Proofs.YtknddbmnciodaaaGreat
theorem indexStays_holds : Rows.IndexStaysSaid := indexStays.over
#print axioms indexStays_holds
end Go.Proofs.YtknddbmnciodaaaGreat
