/- StoreLasts is true of all objects, all acts and whatever survives. No condition behind it. -/
import Derived.Test.YtpeeelnkelnlkaaRows
import Derived.Test.YtpeeelnkelnlkaaLasts
import Derived.Test.YtpeeelnkelnlkaaOpen
import Derived.HandedShaped
namespace Go.Proofs.Ytpeeelnkelnlkaa
open Go.ChangeShapes Go.WideShapes Go.ChangeAt Go.RowKit Go.Joins
section
variable {H : Type} {enc : TypeId × Value → H} {W : World} {base : Nat} {sp : Nat → Bool} {hd : Bool}
set_option maxRecDepth 100000 in
theorem open_ints39 {b0 : Nat} {v : Value} {d : DataW H} {p : List MemPlace} (hv : Value.okWide Try.prog W .any b0 39 v) (h : DataW.Trod enc Try.prog W 0 (fun _ => true) true 39 v d p) : ∃ ks, RdI W v ks ∧ ks.length ≤ 9223372036854775807 := by
  obtain ⟨a0, len, cap, rfl⟩ := okWide_slice Try.underlying39 hv
  obtain ⟨fuel, hf⟩ := h
  obtain ⟨v, ks, e, h1, _, h2, _⟩ := open_keep hf
  simp [Value.cells] at e
  subst e
  exact ⟨ks, h1, by unfold maxLen at h2; omega⟩
set_option maxRecDepth 100000 in
theorem open_obs {b0 : Nat} {v : Value} {d : DataW H} {p : List MemPlace} (hv : Value.okWide Try.prog W .any b0 45 v) (h : DataW.Trod enc Try.prog W 0 (fun _ => true) true 45 v d p) (hw : ∀ n ∈ d.weights Try.prog 45, n ≤ reachBytes) : ∃ M, Obs W v M := by
  obtain ⟨a0, len, cap, rfl⟩ := okWide_slice Try.underlying45 hv
  obtain ⟨fuel, hf⟩ := h
  rcases Go.Deep.open_slice Try.underlying45 hf with ⟨hcs, _⟩ | ⟨a, len', cap', m, n, D, Pl, hcs, _, hl, hm, hmm, hx, he⟩
  · simp [Value.cells] at hcs
    obtain ⟨rfl, rfl, rfl⟩ := hcs
    exact ⟨[], .inl ⟨_, _, rfl, rfl⟩, Nat.zero_le _, fun x hx => by cases hx⟩
  · simp [Value.cells] at hcs
    obtain ⟨rfl, rfl, rfl⟩ := hcs
    have hlm : len ≤ m := by rw [hmm]; split <;> omega
    have hd : d = .slice ((List.range len).map D) ((List.range (m - len)).map fun j => D (len + j)) := congrArg Prod.fst hx
    have hwD : ∀ i, i < len → ∀ k ∈ (D i).weights Try.prog 28, k ≤ reachBytes := fun i hi k hk => hw k (by
      rw [hd]
      simp only [DataW.weights, Try.underlying45, List.mem_cons, List.mem_append]
      refine .inr (.inl ?_)
      have hall : ∀ (l : List (DataW H)) (y : DataW H), y ∈ l → ∀ k ∈ y.weights Try.prog 28, k ∈ DataW.weightsAll Try.prog 28 l := by
        intro l
        induction l with
        | nil => intro y hy; cases hy
        | cons z r ih =>
          intro y hy k hk
          simp only [DataW.weightsAll, List.mem_append]
          rcases List.mem_cons.1 hy with rfl | hy
          · exact .inl hk
          · exact .inr (ih y hy k hk)
      exact hall _ (D i) (List.mem_map.2 ⟨i, List.mem_range.2 hi, rfl⟩) k hk)
    have each : ∀ i, i < len → ∃ x : Ob, x.2.size ≤ 140737488355328 ∧ W.cell? (a.add (i * 2 + 0)) = some (.string x.1) ∧ W.cell? (a.add (i * 2 + 1)) = some (.string x.2) := fun i hi => by
      obtain ⟨cs', h1, h2⟩ := he i (by omega)
      rw [cells28] at h1
      obtain ⟨_, hcl, hcell⟩ := World.cells?_some h1
      obtain ⟨nm, dt, rfl, s1, s2⟩ := open_ob h2
      refine ⟨(nm, dt), ?_, ?_, ?_⟩
      · have := hwD i hi _ s2
        unfold reachBytes at this
        show dt.size ≤ _
        omega
      · have := hcell 0 (by decide)
        rw [Go.Deep.add_add] at this
        exact this
      · have := hcell 1 (by decide)
        rw [Go.Deep.add_add] at this
        exact this
    by_cases h0 : len = 0
    · subst h0
      exact ⟨[], .inl ⟨_, _, rfl, rfl⟩, Nat.zero_le _, fun x hx => by cases hx⟩
    · obtain ⟨b, o, rfl, hb⟩ : ∃ b o, a = ⟨b, o, none⟩ ∧ b < W.heap.size := by
        obtain ⟨x, _, hc, _⟩ := each 0 (by omega)
        exact plain_of (by simpa using hc)
      haveI : Inhabited Ob := ⟨(⟨#[]⟩, ⟨#[]⟩)⟩
      obtain ⟨f, hff⟩ := Go.Deep.choose_lt each
      have hlen : ((List.range len).map f).length = len := by simp
      have hget : ∀ (j : Nat) x, ((List.range len).map f)[j]? = some x → j < len ∧ x = f j := fun j x hj => by
        have hj' : j < len := by have := (List.getElem?_eq_some_iff.1 hj).1; simpa using this
        rw [List.getElem?_map, List.getElem?_range hj'] at hj
        exact ⟨hj', by simpa using hj.symm⟩
      refine ⟨(List.range len).map f, .inr ⟨b, o, cap, by rw [hlen], hb, fun j x hj => ?_⟩, by rw [hlen]; unfold maxLen at hm; omega, fun x hx => ?_⟩
      · obtain ⟨hj', rfl⟩ := hget j x hj
        obtain ⟨_, h1, h2⟩ := hff j hj'
        rw [add_plain] at h1 h2
        exact ⟨h1, h2⟩
      · obtain ⟨j, hj, rfl⟩ := List.mem_map.1 hx
        exact (hff j (List.mem_range.1 hj)).1
end
end Go.Proofs.Ytpeeelnkelnlkaa
namespace Go.Proofs.Ytpeeelnkelnlkaa.storeLasts
open Go.ChangeShapes Go.WideShapes Go.ChangeAt Go.RowKit Go.Joins
set_option linter.unusedVariables false
set_option maxRecDepth 100000 in
theorem lifted (os : Os) (started : os.Started) (H : Type) (enc : TypeId × Value → H) :
    ReturnsInHanded {} Try.checked os 6 .any (Rows.storeLastsSpec.pre6 enc Try.prog Try.f6 Rows.storeLastsRow.domain false) (Rows.storeLastsSpec.post enc Try.prog Try.f6 false true false false) := by
  refine returnsInHanded_of_change_shaped (C := Try.checked) own started (by kernel_rfl) Try.func6
    (ChangeSpec.witness6 (enc := enc) (C := Try.checked) false ⟨#[], #[.slice none 0 0, .slice none 0 0, .slice none 0 0], []⟩ 8 (by kernel_rfl) (by kernel_rfl) (by kernel_rfl) (by kernel_rfl)) ?_
  intro W base args ds gs before hval0 hW hcnd hsz0 _ _
  have hval : ∀ (j : Nat) t v, Try.f6.params[j]? = some t → args[j]? = some v → Value.okWide Try.prog W .any base t v := hval0
  have hW' := hW
  obtain ⟨p, q, hA0, hV, rfl, hfz, hnd⟩ := hW
  have hA : DataW.TrodAll enc Try.prog W 0 (fun _ => true) true Try.f6.params.toList args.toList ds p := hA0
  have hszA : (DataW.weightsEach Try.prog (Try.f6.params.toList ++ Rows.storeLastsSpec.plain.varTypes Try.prog) (ds ++ gs)).all (· ≤ reachBytes) = true := hsz0
  rw [Try.params6] at hA hval hszA
  obtain ⟨v0, vs0, d0, ds0, p0, q0, hargs, rfl, rfl, h0, r0⟩ := trodAll_cons hA
  obtain ⟨v1, vs1, d1, ds1, p1, q1, rfl, rfl, rfl, h1, r1⟩ := trodAll_cons r0
  obtain ⟨v2, vs2, d2, ds2, p2, q2, rfl, rfl, rfl, h2, r2⟩ := trodAll_cons r1
  obtain ⟨rfl, rfl, rfl⟩ := trodAll_nil r2
  obtain rfl : args = #[v0, v1, v2] := by cases args; simp_all
  obtain ⟨rfl, rfl⟩ := trodVars_none hV
  have hw0 : ∀ n ∈ d0.weights Try.prog 45, n ≤ reachBytes := fun n hn => by
    have := List.all_eq_true.1 hszA n (DataW.weights_mem_each (j := 0) rfl rfl n hn)
    simpa using this
  have hw1 : ∀ n ∈ d1.weights Try.prog 35, n ≤ reachBytes := fun n hn => by
    have := List.all_eq_true.1 hszA n (DataW.weights_mem_each (j := 1) rfl rfl n hn)
    simpa using this
  obtain ⟨M, hM⟩ := open_obs (hval 0 45 v0 rfl rfl) h0 hw0
  obtain ⟨l, hl⟩ := open_acts (hval 1 35 v1 rfl rfl) h1 hw1
  obtain ⟨ks, hk, hkl⟩ := open_ints39 (hval 2 39 v2 rfl rfl) h2
  clear hA0 hval0
  simp only [List.append_nil] at hW'
  have hlt : ∀ x ∈ p0 ++ (p1 ++ p2), x.block < W.heap.size := fun x hx => by simpa using hW'.lt x (by simpa using hx)
  refine (lasts_walk hM hl hk hkl).mono fun e W' ⟨he, hg⟩ => ?_
  subst he
  exact ⟨_, rfl, _, _, _, [], p0 ++ (p1 ++ (p2 ++ [])), [], hW', trodAll_cons_mk (shut_bool Try.underlying4 _) trodAll_mk0,
    trodAll_cons_mk (Below.trod laidOut (by kernel_rfl) (of_decide_eq_true (by kernel_rfl)) h0 hg (fun x hx => hlt x (by simp [hx])))
    (trodAll_cons_mk (Below.trod laidOut (by kernel_rfl) (of_decide_eq_true (by kernel_rfl)) h1 hg (fun x hx => hlt x (by simp [hx])))
    (trodAll_cons_mk (Below.trod laidOut (by kernel_rfl) (of_decide_eq_true (by kernel_rfl)) h2 hg (fun x hx => hlt x (by simp [hx]))) trodAll_mk0)), rfl, hg.frame _, fun h => by cases h⟩

theorem over : Rows.storeLastsRow.holds Try.pinned (OpenSpec.ofChange Rows.storeLastsSpec) :=
  OpenClaim.holds_of_wide 6 Try.f6 rfl rfl rfl rfl rfl rfl rfl ⟨rfl, rfl, rfl, rfl, rfl⟩ rfl rfl rfl rfl rfl (by kernel_rfl) Try.func6 (by kernel_rfl)
    (of_decide_eq_true (by kernel_rfl)) (by unfold Func.isWrapper; first | (rw [if_pos (by decide +kernel)]; kernel_rfl) | (rw [if_neg (by decide +kernel)]; exact ⟨rfl, rfl⟩))
    (fun os started H enc _ => lifted os started H enc)

end Go.Proofs.Ytpeeelnkelnlkaa.storeLasts
namespace Go.Proofs.Ytpeeelnkelnlkaa
theorem storeLasts_holds : Rows.StoreLastsSaid := storeLasts.over
#print axioms storeLasts_holds
end Go.Proofs.Ytpeeelnkelnlkaa
