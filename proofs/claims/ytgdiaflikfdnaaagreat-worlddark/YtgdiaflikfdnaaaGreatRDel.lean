/- The document's Del. -/
import Derived.Test.YtgdiaflikfdnaaaGreatROps
namespace Go.Proofs.YtgdiaflikfdnaaaGreat
open Go.RowKit Go.Maps
theorem rcount_same (r : Rf) : (rcount r).2.good = r.good ∧ (rcount r).2.writes = r.writes := by
  unfold rcount
  split <;> exact ⟨rfl, rfl⟩
set_option maxHeartbeats 2000000 in
set_option maxRecDepth 20000 in
theorem refDel_any {w : World} {S : Nat → Prop} {b : Nat} {r : Rf} (h : IsRf w S b r) (hN : r.good.length + r.writes.length ≤ 1000000) (hn : ∀ k, r.ahead = some k → k < 9223372036854775808) (n : ByteArray) : Calls Tryz.prog 67 #[ptr b, .string n] w fun e w' => e = .returned (er (delR r n).1) ∧ AfterR w w' S b (delR r n).2 := by
  have HG := refGet_any h hN n
  have HI := hid h
  unfold delR er
  unfold ptr at *
  clear h
  by_cases hg : (getR r n).2 = 0
  · rw [if_pos hg]
    rw [hg] at HG
    have hlen : (rcount r).2.writes.length ≤ 1000000 := by rw [(rcount_same r).2]; omega
    have HRC : Hid (∀ W, Below w.heap.size w W → Calls Tryz.prog 89 #[.pointer (some ⟨b, 0, none⟩)] W fun e w' => e = .returned (.bool (rcount r).1) ∧ AfterR W w' S b (rcount r).2) := hid fun W hW => refRefused_any (HI.out.below hW) hn
    unfold triedR
    generalize (rcount r).2 = r1 at *
    generalize (rcount r).1 = c1 at *
    go_enter Tryz.func67, Tryz.ntmps67
    go_wp2_with fail
    refine HG.mono ?_
    clear HG
    rintro x w1 ⟨rfl, hb⟩
    have HR := HRC.out w1 hb
    have HB := hid hb
    clear hb hg hn hN HRC
    go_wp2_with fail
    refine HR.mono ?_
    clear HR
    rintro x w2 ⟨rfl, ha⟩
    have HA := hid (AfterR.front HB.out ha)
    obtain ⟨S1, hi1, hs1, ho1⟩ := ha
    cases c1 with
    | true =>
      clear hi1 hs1 ho1
      go_wp2_with fail
      go_ret
      exact ⟨rfl, HA.out⟩
    | false =>
      clear HA
      obtain ⟨gv, wv, ⟨c0, c1, c2, c3, c4⟩, hgd, hwr, hf⟩ := hi1.cells
      have f1 := hf 1
      have HI1 := hid hi1
      have HC1 := hid c1
      have HO1 := hid (show Only S w w2 from (Only.of_below HB.out).trans ho1 fun _ h => .inl h)
      have HS1 := hid (show ∀ i, S1 i → S i ∨ w.heap.size ≤ i from fun i hi => (hs1 i hi).imp id fun h => Nat.le_trans HB.out.size h)
      have HRow := hid (fun (cs : Array Value) => hwr.alloc (Obj.cells cs 117))
      have HNE := hid (fun (W : World) (hg : (w2.alloc (.cells (rcells ⟨n, ⟨#[]⟩, true⟩).toArray 117)).grownBy W wv.ownBlock) => show Has W b (rfcells gv wv r1) 104 from by
        obtain ⟨gv', wv', h1, h2, h3, _⟩ := hi1
        have e0 : gv' = gv := by have := h1.cell 0; rw [c0] at this; exact (Option.some.inj this).symm
        have e1 : wv' = wv := by have := h1.cell 1; rw [c1] at this; exact (Option.some.inj this).symm
        subst e0 e1
        have h4 := h1.alloc (.cells (rcells ⟨n, ⟨#[]⟩, true⟩).toArray 117)
        have hl := h4.lt
        unfold Has at h4 ⊢
        rw [hg.block b hl fun e => row_ne hwr h1 (by decide) b e.symm rfl]
        exact h4)
      clear hi1 hs1 ho1 HB hf c0 c2 c3 c4 hgd
      go_wp2_with (at_builtin; refine wpList_app90 rfl _ _ rfl wv r1.writes.length (r1.writes.flatMap rcells) rfl (HRow.out _) ⟨w2.heap.size, 0, none⟩ ⟨n, ⟨#[]⟩, true⟩ rfl (new_cells w2 (rcells ⟨n, ⟨#[]⟩, true⟩) 117) (by omega) ?_; intro g' cap' w' hr' hgr' hne'; have hh := HNE.out w' hgr'; have y1 := hh.cell 1; have y2 := hh.frozen 1; have HF := hid (rf_append (q := ⟨n, ⟨#[]⟩, true⟩) HI1.out HC1.out (((Only.refl _ _).alloc _).trans (Only.of_grown hgr' (fun k h => h)) (fun _ h => .inl h)) hr' (fun g hg => (by simp [Value.ownBlock] at hg; subst hg; exact hne'.imp id (fun h => Nat.le_of_succ_le (by simpa using h))))); clear hh hr' hgr' hne')
      go_ret
      exact ⟨rfl, AfterR.trans HS1.out HO1.out HF.out⟩
  · rw [if_neg hg]
    have HA := hid (fun w' (hb : Below w.heap.size w w') => AfterR.of_below HI.out hb)
    have q : ((getR r n).2 == 0) = false := beq_eq_false_iff_ne.2 hg
    clear HI hn hN hg
    generalize (getR r n).1 = d0 at *
    generalize (getR r n).2 = e0 at *
    go_enter Tryz.func67, Tryz.ntmps67
    go_wp2_with fail
    refine HG.mono ?_
    clear HG
    rintro x w1 ⟨rfl, hb⟩
    have HA' := hid (HA.out _ hb)
    clear hb HA
    go_wp2_with fail
    go_ret
    exact ⟨rfl, HA'.out⟩
end Go.Proofs.YtgdiaflikfdnaaaGreat
