/- The program's world: List, Suspects. -/
import Derived.Test.YtgdiaflikfdnaaaW6
namespace Go.Proofs.Ytgdiaflikfdnaaa
open Go.RowKit Go.Maps
variable {w w' w1 w2 : World} {S : Nat → Prop} {b g : Nat} {W W' : Wd}
set_option maxHeartbeats 2000000 in
set_option maxRecDepth 20000 in
theorem ask68_any (h : IsWd w S b g W) (hc : W.calls ≤ 1000000) (hl : W.left < 9223372036854775808) (i : Int) (Q : Ending → World → Prop)
    (h1 : ¬ (0 ≤ i ∧ i < (W.l.length : Int)) → Q (.returned (.tuple #[.slice none 0 0, .int .i64 1])) w)
    (h2 : 0 ≤ i ∧ i < (W.l.length : Int) → (countW W).dark = true → ∀ w1, AfterW w w1 S b g (countW W) → Q (.returned (.tuple #[.slice none 0 0, .int .i64 56])) w1)
    (hf : 0 ≤ i ∧ i < (W.l.length : Int) → (countW W).dark = false → ∀ w1, AfterW w w1 S b g (countW W) → ∀ x, (countW W).l[i.toNat]? = some x → Calls Try.prog 28 #[.pointer (some ⟨x.blk, 0, none⟩)] w1 fun e w' => ∃ (v : Value) (z : Int), e = .returned (.tuple #[v, .int .i64 z]) ∧ Q e w') :
    Calls Try.prog 27 #[ptr b, .int .i64 i, .func (.methodOf 56 "List") #[] #[]] w Q := by
  have HA := at_any h i
  have HC := count_any h hc hl
  unfold placeV at HA
  by_cases h0 : 0 ≤ i ∧ i < (W.l.length : Int)
  · rw [if_pos h0] at HA
    have HF := hid (hf h0)
    have H2 := hid (h2 h0)
    have HX := hid (askS_does (W := W) (i := i) (f := fun s => (0, s)) h0)
    unfold ptr at *
    clear h hf h1 h2 h0 hc hl
    go_enter Try.func27, Try.ntmps27
    go_wp2_with fail
    refine HA.mono ?_
    clear HA
    rintro x w1 ⟨rfl, rfl⟩
    go_wp2_with fail
    refine HC.mono ?_
    clear HC
    rintro x w2 ⟨rfl, ha⟩
    have HA2 := hid ha
    obtain ⟨S2, hi2, _, _⟩ := ha
    obtain ⟨cap, ⟨c0, c1, c2, c3, c4⟩, _, _⟩ := hi2.cells
    cases hd : (countW W).dark with
    | true =>
      rw [hd] at c2
      have HQ := hid (H2.out hd w2 HA2.out)
      clear hd H2 HF hi2 c0 c1 c3 c4
      go_wp2_with fail
      exact HQ.out
    | false =>
      rw [hd] at c2
      obtain ⟨x, hx, _, _⟩ := HX.out hd
      have HFF := HF.out hd w2 HA2.out x hx
      have hm := methList w2 g (i.toNat * 2) x.blk (hi2.kept hx).1
      clear hd HF H2 hi2 c0 c1 c3 c4 hx HX
      go_wp2_with fail
      refine HFF.mono ?_
      clear HFF
      rintro x w3 ⟨d, z, rfl, hq⟩
      have HQ := hid hq
      clear hq
      go_wp2_with fail
      exact HQ.out
  · rw [if_neg h0] at HA
    have H1 := hid (h1 h0)
    clear h hf HC h0 h1 h2
    unfold ptr at *
    go_enter Try.func27, Try.ntmps27
    go_wp2_with fail
    refine HA.mono ?_
    clear HA
    rintro x w1 ⟨rfl, rfl⟩
    go_wp2_with fail
    exact H1.out
def listW (W : Wd) (i : Int) : List Ob × Int := if 0 ≤ i ∧ i < (W.l.length : Int) then (if (countW W).dark then ([], 56) else match (countW W).l[i.toNat]? with
  | some x => if x.st.down then ([], 51) else (x.st.seen, 0)
  | none => ([], 56)) else ([], 1)
set_option maxHeartbeats 2000000 in
set_option maxRecDepth 20000 in
theorem wlist_any (h : IsWd w S b g W) (hc : W.calls ≤ 1000000) (hl : W.left < 9223372036854775808) (hs : ∀ x ∈ W.l, x.st.seen.length ≤ 1000000) (i : Int) : Calls Try.prog 7 #[ptr b, .int .i64 i] w fun e w' => ∃ v, e = .returned (.tuple #[v, er (listW W i).2]) ∧ w'.ownsRow w.heap.size 9 1 v (listW W i).1.length (nameCells (listW W i).1) ∧ AfterW w w' S b g (askW W i) := by
  have HASK := hid (ask68_any h hc hl i (fun e w' => ∃ (v : Value) (z : Int), e = .returned (.tuple #[v, .int .i64 z]) ∧ z = (listW W i).2 ∧ w'.ownsRow w.heap.size 9 1 v (listW W i).1.length (nameCells (listW W i).1) ∧ AfterW w w' S b g (askW W i))
    (fun h0 => ⟨_, 1, rfl, by unfold listW; rw [if_neg h0], by unfold listW; rw [if_neg h0]; exact World.ownsRow_nil _ _ _ _, by unfold askW; rw [if_neg h0]; exact AfterW.refl h⟩)
    (fun h0 hd w1 ha => ⟨_, 56, rfl, by unfold listW; rw [if_pos h0, if_pos hd], by unfold listW; rw [if_pos h0, if_pos hd]; exact World.ownsRow_nil _ _ _ _, by unfold askW; rw [if_pos h0]; exact ha⟩)
    (fun h0 hd w1 ha x hx => by
      have e1 : listW W i = if x.st.down then ([], 51) else (x.st.seen, 0) := by unfold listW; rw [if_pos h0, if_neg (by rw [hd]; decide), hx]
      have e2 : askW W i = countW W := by unfold askW; rw [if_pos h0]
      have hxm : x ∈ W.l := by rw [countW_l] at hx; exact List.mem_of_getElem? hx
      rw [e1, e2]
      obtain ⟨S1, i1, s1, o1⟩ := ha
      obtain ⟨T, t1, _, _⟩ := i1.call hx
      refine (list_any t1 (hs x hxm)).mono fun e w' ⟨v, h1, h2, h3⟩ => ?_
      refine ⟨v, _, h1, v, _, h1, ?_, ?_, AfterW.trans s1 o1 ((AfterW.refl i1).next h3)⟩
      · cases x.st.down <;> rfl
      · have := row_base h2 o1.size
        cases hdn : x.st.down <;> (rw [hdn] at this; exact this)))
  unfold ptr at *
  unfold er
  clear h hc hl hs
  go_enter Try.func7, Try.ntmps7
  go_wp2_with fail
  refine HASK.out.mono ?_
  clear HASK
  rintro x w2 ⟨d, z, rfl, hz, hr, ha⟩
  have HZ := hid hz
  have HR := hid hr
  have HA := hid ha
  clear hz ha hr
  go_wp2_with fail
  go_ret2
  exact ⟨d, by rw [← HZ.out]; rfl, HR.out, HA.out⟩
/-- the suspect ones -/
def susL (l : List Kp) : Nat → List Nat
  | 0 => []
  | k + 1 => susL l k ++ (match l[k]? with | some x => if x.sus then [k] else [] | none => [])
def intCells (l : List Nat) : List Value := l.map fun (k : Nat) => Value.int .i64 (k : Int)
theorem susL_len (l : List Kp) : ∀ k, (susL l k).length ≤ k
  | 0 => Nat.le_refl _
  | k + 1 => by
    have := susL_len l k
    unfold susL
    rw [List.length_append]
    split
    · split <;> simp <;> omega
    · simp; omega
theorem el3 : El 38 3 1 := el_of (z := .int .i64 0) (bytes := 8) Try.underlying38 (by kernel_rfl) rfl (by decide) (by decide)
set_option maxHeartbeats 2000000 in
set_option maxRecDepth 20000 in
theorem wsus_any (h : IsWd w S b g W) (hn : W.l.length ≤ 1000) : Calls Try.prog 11 #[ptr b] w fun e w' => ∃ v, e = .returned v ∧ w'.ownsRow w.heap.size 3 1 v (susL W.l W.l.length).length (intCells (susL W.l W.l.length)) ∧ Below w.heap.size w w' := by
  have HN := n_any h
  have HH := hid h
  clear h
  unfold ptr at *
  generalize hL : W.l.length = L at *
  have HL := hid hL
  clear hL
  go_enter Try.func11, Try.ntmps11
  go_wp2_with fail
  refine HN.mono ?_
  clear HN
  rintro x w1 ⟨rfl, rfl⟩
  go_wp2_with fail
  go_loopg [3, 7] L (fun gk s3 s7 wx => ∃ k : Nat, k + gk = L ∧ s7 = .int .i64 (k : Int) ∧ wx.ownsRow w1.heap.size 3 1 s3 (susL W.l k).length (intCells (susL W.l k)) ∧ Below w1.heap.size w1 wx)
  case atStart => exact ⟨0, by omega, rfl, World.ownsRow_nil _ _ _ _, Below.refl _ _⟩
  case round =>
    obtain ⟨k, hk, rfl, hrow, hbw⟩ := hrel
    have HB := hid hbw
    have HRow := hid hrow
    cases gk with
    | zero =>
      have q1 : ¬ ((k : Int) < (L : Int)) := by omega
      have hkn : k = L := by omega
      clear hrow hbw
      go_wp2_with fail
      go_ret
      have := HRow.out
      rw [hkn] at this
      exact ⟨u3, rfl, this, HB.out⟩
    | succ g1 =>
      have q1 : (k : Int) < (L : Int) := by omega
      obtain ⟨x, hx⟩ : ∃ x, W.l[k]? = some x := ⟨_, List.getElem?_eq_getElem (by rw [HL.out]; omega)⟩
      have hI := HH.out.below hbw
      obtain ⟨cap, ⟨c0, _, _, _, _⟩, _, _⟩ := hI.cells
      rw [HL.out] at c0
      obtain ⟨_, k1, _⟩ := hI.kept hx
      have hz : w1.heap.size ≤ wr.heap.size := hbw.size
      have hsl := susL_len W.l k
      cases hsu : x.sus with
      | true =>
        rw [hsu] at k1
        have HT := hid (show susL W.l (k + 1) = susL W.l k ++ [k] from by show susL W.l k ++ _ = _; rw [hx]; simp only [hsu]; rfl)
        clear hx hI hbw hsu
        have HT1 := hid (show (susL W.l (k + 1)).length = (susL W.l k).length + 1 ∧ intCells (susL W.l (k + 1)) = intCells (susL W.l k) ++ [.int .i64 (k : Int)] from by rw [HT.out]; simp [intCells])
        generalize (susL W.l k).length = D at *
        generalize intCells (susL W.l k) = X at *
        go_wp2_with (at_builtin; refine wpList_app el3 rfl _ _ rfl w1.heap.size _ D _ rfl (hrow.alloc _) ⟨wr.heap.size, 0, none⟩ 1 1 [.int .i64 (k : Int)] rfl (by decide) rfl (new_cells wr [.int .i64 (k : Int)] 3) (by simp [Value.oneCell']) (by omega) (by simp; omega) ?_; intro g' cap' w' hr' hgr')
        go_roundg g1
        case measure => omega
        case rel =>
          refine ⟨k + 1, by omega, by first | rfl | simp, ?_, ?_⟩
          · rw [HT1.out.1, HT1.out.2]; exact hr'
          · exact grown_below ((HB.out).alloc hz _) (HRow.out.alloc _) hgr' (Nat.le_refl _) (by simp; omega)
      | false =>
        rw [hsu] at k1
        have HT := hid (show susL W.l (k + 1) = susL W.l k from by show susL W.l k ++ _ = _; rw [hx]; simp only [hsu]; simp)
        clear hx hI hbw hsu hrow
        go_wp2_with fail
        go_roundg g1
        case measure => omega
        case rel => exact ⟨k + 1, by omega, by first | rfl | simp, by rw [HT.out]; exact HRow.out, HB.out⟩
end Go.Proofs.Ytgdiaflikfdnaaa
