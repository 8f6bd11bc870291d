/- The document's Rows: what it tells, and how it is refused. -/
import Derived.Test.YtfbjpgcgdhhfnaaXRows2
namespace Go.Proofs.Ytfbjpgcgdhhfnaa.Mx
open Go.RowKit
/-- a whole row behind what was there -/
theorem wpList_app8s {ops : Array Oper} {rest : List Oper} {o : Oper} {a : Act} {w : World} {Q : Exit → Act → World → Prop} (hgd : o.guard = none) (s x : Operand)
    (ho : o.op = .call { callee := .builtin .append, args := #[s, x], argTypes := #[31, 31] }) (base : Nat) (v : Value) (hs : a.eval s = v) (hown : Owns 5 base v (U8s []).toList w)
    (gs q c cs : Nat) (l : List Nat) (hx : a.eval x = .slice (some ⟨gs, q, none⟩) c cs) (hl : l.length = c) (hsrc : ∀ j, j < c → w.cell? ⟨gs, q + j, none⟩ = some (.int .u8 ((l.getD j 0 : Nat) : Int))) (hc : 0 < c) (hc2 : c ≤ 1000000) (hbase : base ≤ w.heap.size)
    (h : ∀ g cap w', Owns 5 base (.slice (some ⟨g, 0, none⟩) c cap) (U8s l).toList w' → w.grownBy w' v.ownBlock → Below base w w' → wpList Try.prog ops Q rest (a.put o.dst (.slice (some ⟨g, 0, none⟩) c cap)) w') : wpList Try.prog ops Q (o :: rest) a w := by
  obtain ⟨i, hi, hz0, hz1, hz2⟩ := el5.info
  have hlc : (U8s l).toList.length = c := by rw [U8s_toList_length, hl]
  refine wpList_append_lies w hgd s x 31 ho base 5 i (.int .u8 0) 1 1 el5.ht hi hz0 hz1 hz2 el5.hz (by decide) v 0 [] hs (by simpa [U8s, Owns] using hown) ⟨gs, q, none⟩ c cs (U8s l).toList hx (by rw [hlc]; simp) (fun j u hu => ?_) (by intro v hv; simp [U8s] at hv; obtain ⟨x, _, rfl⟩ := hv; rfl) hc (by unfold maxLen; omega) (by omega) hbase w.heap.size rfl ?_
  · have hj : j < c := by rw [← hlc]; exact (List.getElem?_eq_some_iff.1 hu).1
    rw [Addr.add_mid, hsrc j hj, ← hu, Array.getElem?_toList, U8s_get _ _ (by omega)]
  · intro g cap w' h2 h3 h4 h5
    rw [Nat.zero_add, List.nil_append] at h2
    rw [Nat.zero_add]
    refine h g cap w' ?_ h3 ((Below.refl base w).grown h3 hbase (fun k hk => (hown.base_le k hk).1))
    show w'.ownsRow base 5 1 _ (U8s l).toList.length _
    rw [hlc]; exact h2
theorem OutRows.kept {base : Nat} {w0 w w' : World} {v x : Value} {rs : List (List Nat)} (h : OutRows base w0 v rs) (hb : Below w0.heap.size w0 w) (hg : w.grownBy w' x.ownBlock) (hx : ∀ k, x.ownBlock = some k → w0.heap.size ≤ k) : OutRows base w' v rs := by
  obtain ⟨vs, h1, h2, h3⟩ := h
  have ne : ∀ (e : TypeId) (u : Value) (ys : List Value), Owns e base u ys w0 → u.ownBlock = none ∨ u.ownBlock ≠ x.ownBlock := fun e u ys hu => by
    cases hub : u.ownBlock with
    | none => exact .inl rfl
    | some k =>
      right
      intro hxx
      have a1 := (hu.base_le k hub).2
      have a2 := hx k hxx.symm
      omega
  exact ⟨vs, h1, World.ownsRow.kept (h2.below hb) hg (ne _ _ _ h2), fun j hj => ⟨World.ownsRow.kept ((h3 j hj).1.below hb) hg (ne _ _ _ (h3 j hj).1), (h3 j hj).2⟩⟩
theorem OutRows.kept1 {base n c : Nat} {w0 w w' : World} {v : Value} {rs : List (List Nat)} (h : OutRows base w0 v rs) (hb : Below w0.heap.size w0 w) (hg : w.grownBy w' (Value.slice (some ⟨w0.heap.size, 0, none⟩) n c).ownBlock) : OutRows base w' v rs :=
  h.kept hb hg (fun k hk => by simp [Value.ownBlock] at hk; omega)
theorem rowsM_take (m : List (List Nat)) (zs : List Int) (k x : Nat) (hk : k < zs.length) (hx : zs.getD k 0 = (x : Int)) : (rowsM m zs).take k ++ [m.getD x []] = (rowsM m zs).take (k + 1) := by
  have e : (rowsM m zs).getD k [] = m.getD x [] := by
    have : (rowsM m zs).getD k [] = m.getD (zs.getD k 0).toNat [] := by simp [rowsM, List.getD_eq_getElem?_getD, hk]
    rw [this, hx, Int.toNat_natCast]
  rw [← e]; exact take_getD _ _ _ (by simp [rowsM]; exact hk)
set_option maxRecDepth 20000 in
set_option maxHeartbeats 1000000 in
theorem refRows_t (v vz : Value) (m : List (List Nat)) (zs : List Int) (w : World) (h1 : Mat w v m) (h2 : Ints w vz zs) (hm : mayM m = true) (hz12 : 1 ≤ zs.length ∧ zs.length ≤ 12) :
    Calls Try.prog 28 #[v, vz] w fun e w' => ∃ r, e = .returned (.tuple #[r, .int .i64 (if goodR m zs then 0 else 1)]) ∧ Mat w' r (if goodR m zs then rowsM m zs else []) ∧ Below w.heap.size w w' := by
  have hM := h1
  obtain ⟨f1, f2, f3, f4, f5⟩ := mayM_facts hm
  obtain ⟨g, o, cap, rfl, hg, hrows⟩ := h1.may hm
  obtain ⟨az, capz, rfl, hzl, hzc⟩ := h2
  obtain ⟨gz, oz, rfl, hgz, hzd⟩ := hzc (by omega)
  have HG : Hid (goodR m zs = decide (∀ j, j < zs.length → 0 ≤ zs.getD j 0 ∧ zs.getD j 0 < (m.length : Int))) := by
    unfold Hid goodR
    rw [decide_eq_decide]
    exact ⟨fun hh => hh.2.2, fun hh => ⟨by omega, by omega, hh⟩⟩
  have HT : Hid (∀ k x, k < zs.length → zs.getD k 0 = ((x : Nat) : Int) → (rowsM m zs).take k ++ [m.getD x []] = (rowsM m zs).take (k + 1)) := fun k x hk hx => rowsM_take m zs k x hk hx
  have HE : Hid (rowsM m zs = (rowsM m zs).take zs.length) := by unfold Hid; rw [List.take_of_length_le (by simp [rowsM])]
  have HX : Hid (∀ k, k < m.length → ∀ x ∈ m.getD k [], x < 256) := fun k hk => by
    obtain ⟨_, _, _, _, _, _, kk⟩ := hM.some (by omega)
    obtain ⟨r, _, hr⟩ := kk k hk
    exact hr.choose_spec.choose_spec.2.2.1
  have HLK : Hid (∀ k, ((rowsM m zs).take k).length ≤ 1000000) := fun k => by simp [rowsM]; omega
  have HMZ : Hid ((rowsM m zs).length = zs.length) := by simp [Hid, rowsM]
  have HML : Hid (∀ i, i < zs.length → 0 ≤ zs.getD i 0 ∧ zs.getD i 0 < (m.length : Int) → ((rowsM m zs).getD i []).length ≤ 1000000) := fun i hi hz => by
    have e : (rowsM m zs).getD i [] = m.getD (zs.getD i 0).toNat [] := by simp [rowsM, List.getD_eq_getElem?_getD, hi]
    rw [e, f5 _ (by omega)]; omega
  generalize hcc : (m.getD 0 []).length = c at *
  generalize hn : m.length = n at *
  generalize hnz : zs.length = nz at *
  have bn : (0 : Int) < (n : Int) := by omega
  have ZD : Hid (∀ j, j < nz → w.cell? ⟨gz, oz + j, none⟩ = some (.int .i64 (zs.getD j 0))) := hzd
  have F5 : Hid (∀ j, j < n → (m.getD j []).length = c) := f5
  have RW : Hid (∀ j, j < n → ∃ gr q cr, gr < w.heap.size ∧ w.cell? ⟨g, o + j, none⟩ = some (.slice (some ⟨gr, q, none⟩) c cr) ∧ ∀ i, i < c → w.cell? ⟨gr, q + i, none⟩ = some (.int .u8 (((m.getD j []).getD i 0 : Nat) : Int)) ∧ (m.getD j []).getD i 0 < 256) := hrows
  clear hzd f5 hrows hzc h1 hnz hcc hn
  have dA : decide ((nz : Int) < 1) = false := by simp; omega
  have dB : decide ((12 : Int) < (nz : Int)) = false := by simp; omega
  go_enter Try.func28, Try.ntmps28
  go_wp2_with fail
  refine (refMay_any _ m w hM).mono ?_
  rintro e w1 ⟨rfl, b1⟩
  rw [hm]
  go_wp2_with fail
  go_loopw [6, 7] (fun vo vi wr => ∃ k : Nat, k ≤ nz ∧ vi = .int .i64 (k : Int) ∧ Hid (OutRows w.heap.size wr vo ((rowsM m zs).take k)) ∧ Hid (∀ j, j < k → 0 ≤ zs.getD j 0 ∧ zs.getD j 0 < (n : Int)) ∧ Below w.heap.size w wr) (fun _ vi _ => nz - (intOf vi).toNat)
  case atStart => exact ⟨0, by omega, rfl, by simpa [Hid] using OutRows.nil _ _, fun j hj => absurd hj (by omega), b1⟩
  case round =>
    obtain ⟨k, hk, rfl, ho, hA, hb⟩ := hrel
    clear b1
    by_cases hlt : k < nz
    · have q1 := cell_below hb hgz (ZD.out k hlt)
      have d0 : (k : Int) < (nz : Int) := by omega
      by_cases hz : 0 ≤ zs.getD k 0 ∧ zs.getD k 0 < (n : Int)
      · have HA' : Hid (∀ j, j < k + 1 → 0 ≤ zs.getD j 0 ∧ zs.getD j 0 < (n : Int)) := fun j hj => by
          by_cases hjk : j < k
          · exact hA.out j hjk
          · obtain rfl : j = k := by omega
            exact hz
        obtain ⟨x, hx⟩ : ∃ x : Nat, zs.getD k 0 = (x : Int) := ⟨(zs.getD k 0).toNat, by omega⟩
        have HTk : Hid _ := HT.out k x hlt hx
        rw [hx] at q1 hz
        clear hx
        obtain ⟨q2, q3⟩ := hz
        have hxn : x < n := by omega
        obtain ⟨gr, qr, cr, hgr, kr, hcells⟩ := RW.out x hxn
        have r1 := cell_below hb hg kr
        have r2 : Hid (∀ W, Below wr.heap.size wr W → ∀ i, i < c → W.cell? ⟨gr, qr + i, none⟩ = some (.int .u8 (((m.getD x []).getD i 0 : Nat) : Int))) := fun W hW i hi => cell_below (belowCall hb hW) hgr (hcells i hi).1
        clear kr hcells
        have BA : Below wr.heap.size wr (wr.alloc (.cells #[] 5)) := (Below.refl _ _).alloc (Nat.le_refl _) _
        have q1' := cell_below BA (Nat.lt_of_lt_of_le hgz hb.size) q1
        have r1' := cell_below BA (Nat.lt_of_lt_of_le hg hb.size) r1
        have hE : Hid (Owns 5 w.heap.size (.slice (some ⟨wr.heap.size, 0, none⟩) 0 0) (U8s []).toList (wr.alloc (.cells #[] 5))) := by
          have := Owns.ofHas (base := w.heap.size) (l := []) (w := wr.alloc (.cells #[] 5)) (Has.new wr _ (U8s []) 5 rfl) hb.size (by simp)
          exact this
        have d1 : decide ((x : Int) < 0) = false := by simp
        have d2 : decide ((n : Int) ≤ (x : Int)) = false := by simp; omega
        have d3 : (x : Int) < (n : Int) := by omega
        go_wp2_with (first
          | (refine wpList_app8s rfl (.tmp 40) (.tmp 47) rfl w.heap.size _ rfl (by exact hE.out) gr qr c cr (m.getD x []) rfl (F5.out x hxn) (by exact r2.out _ BA) (by omega) (by omega) (Nat.le_trans hb.size BA.size) ?_; intro gq capq w2 ho2 hgb2 hb2; have hO2 : OutRows w.heap.size w2 _ ((rowsM m zs).take k) := ho.out.kept1 BA hgb2; have hs2 : w.heap.size ≤ w2.heap.size := Nat.le_trans (Nat.le_trans hb.size BA.size) hb2.size)
          | (refine wpList_appRow rfl (.tmp 39) (.tmp 49) rfl w.heap.size _ _ ((rowsM m zs).take k) (m.getD x []) rfl (by exact hO2.below ((Below.refl _ _).alloc (Nat.le_refl _) _)) _ _ rfl (by exact Has.new _ _ _ _ rfl) (by exact ho2.alloc _) (HX.out x hxn) (HLK.out k) (Nat.le_trans hs2 (by simp)) ?_; intro v' w3 ho3 hb3))
        have B3 : Below w.heap.size w w3 := (belowAlloc ((belowAlloc hb _ hb.size).trans hb2) _ hs2).trans hb3
        rw [HTk.out] at ho3
        exact ⟨⟨k + 1, by omega, rfl, ho3, HA', B3⟩, by simp [intOf]; omega⟩
      · have hr : goodR m zs = false := by rw [HG.out, decide_eq_false_iff_not]; exact fun hh => hz (hh k hlt)
        generalize zs.getD k 0 = z at *
        by_cases hz0 : z < 0
        · have d1 : decide (z < 0) = true := by simp; omega
          go_wp2_with fail
          all_goals go_ret2
          all_goals first | exact ⟨.slice none 0 0, rfl, Mat.nil _, hb⟩ | exact ⟨.slice none 0 0, by rw [hr]; rfl, by rw [hr]; exact Mat.nil _, hb⟩
        · have d1 : decide (z < 0) = false := by simp; omega
          have d2 : decide ((n : Int) ≤ z) = true := by simp; omega
          go_wp2_with fail
          all_goals go_ret2
          all_goals first | exact ⟨.slice none 0 0, rfl, Mat.nil _, hb⟩ | exact ⟨.slice none 0 0, by rw [hr]; rfl, by rw [hr]; exact Mat.nil _, hb⟩
    · obtain rfl : k = nz := by omega
      have hr : goodR m zs = true := by rw [HG.out, decide_eq_true_iff]; exact hA.out
      go_wp2_with fail
      go_ret2
      have ho' := ho.out
      rw [← HE.out] at ho'
      exact ⟨_, rfl, ho'.mat (by rw [HMZ.out]; omega) (fun i hi => by rw [HMZ.out] at hi; exact HML.out i hi (hA.out i hi)), hb⟩
theorem refRows_any (v vz : Value) (m : List (List Nat)) (zs : List Int) (w : World) (h1 : Mat w v m) (h2 : Ints w vz zs) :
    Calls Try.prog 28 #[v, vz] w fun e w' => ∃ r, e = .returned (.tuple #[r, .int .i64 (errR m zs)]) ∧ Mat w' r (ansR m zs) ∧ Below w.heap.size w w' := by
  cases hm : mayM m
  · have hE : errR m zs = 4 := by simp [errR, hm]
    have hA : ansR m zs = [] := by simp [ansR, hm]
    rw [hE, hA]
    go_enter Try.func28, Try.ntmps28
    go_wp2_with fail
    refine (refMay_any _ m w h1).mono ?_
    rintro e w1 ⟨rfl, b1⟩
    rw [hm]
    go_wp2_with fail
    go_ret2
    exact ⟨.slice none 0 0, rfl, Mat.nil _, b1⟩
  have hE : errR m zs = (if goodR m zs then 0 else 1) := by simp [errR, hm]
  have hA : ansR m zs = (if goodR m zs then rowsM m zs else []) := by simp [ansR, hm]
  rw [hE, hA]
  by_cases hz : 1 ≤ zs.length ∧ zs.length ≤ 12
  · exact refRows_t v vz m zs w h1 h2 hm hz
  · have hg : goodR m zs = false := by unfold goodR; rw [decide_eq_false_iff_not]; exact fun hh => hz ⟨hh.1, hh.2.1⟩
    rw [hg]
    obtain ⟨az, capz, rfl, hzl, hzc⟩ := h2
    clear hzc
    by_cases h0 : zs.length < 1
    · have dA : decide ((zs.length : Int) < 1) = true := by simp; omega
      go_enter Try.func28, Try.ntmps28
      go_wp2_with fail
      refine (refMay_any _ m w h1).mono ?_
      rintro e w1 ⟨rfl, b1⟩
      rw [hm]
      go_wp2_with fail
      go_ret2
      exact ⟨.slice none 0 0, rfl, Mat.nil _, b1⟩
    · have dA : decide ((zs.length : Int) < 1) = false := by simp; omega
      have dB : decide ((12 : Int) < (zs.length : Int)) = true := by simp; omega
      go_enter Try.func28, Try.ntmps28
      go_wp2_with fail
      refine (refMay_any _ m w h1).mono ?_
      rintro e w1 ⟨rfl, b1⟩
      rw [hm]
      go_wp2_with fail
      go_ret2
      exact ⟨.slice none 0 0, rfl, Mat.nil _, b1⟩
end Go.Proofs.Ytfbjpgcgdhhfnaa.Mx
