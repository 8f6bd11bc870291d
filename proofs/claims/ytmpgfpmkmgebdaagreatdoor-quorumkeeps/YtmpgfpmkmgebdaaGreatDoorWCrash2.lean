/- The contract of Crash: the walk. -/
import Derived.Test.YtmpgfpmkmgebdaaGreatDoorWCrash
namespace Go.Proofs.YtmpgfpmkmgebdaaGreatDoor.W
open Go.RowKit Go.Maps
theorem row_slice {w : World} {base k n : Nat} {e : TypeId} {v : Value} {xs : List Value} (h : w.ownsRow base e k v n xs) : ∃ a c, v = .slice a n c := by
  rcases row_form h with ⟨rfl, rfl, _⟩ | ⟨g, cap, rfl, _⟩
  · exact ⟨none, 0, rfl⟩
  · exact ⟨_, cap, rfl⟩
section
variable {ev : Operand → Value} {o : Oper} {w : World} {x y : Operand}
theorem enter58 (args : Array Value) : (callFunc 57 args).run Tryz.prog w = .ok (.enter 57 args) w := by kernel_rfl
theorem rn_ix39 {g k n c i : Nat} (ho : o.op = .indexAddr 54 x y) (hx : ev x = .slice (some ⟨g, k, none⟩) n c) (hy : ev y = .int .i64 (i : Int)) (hi : i < n) : (execOp ev o).run Tryz.prog w = .ok (.value (.pointer (some ⟨g, k + i, none⟩))) w := by
  have q1 : (i : Int) < (n : Int) := by omega
  simp [execOp, ho, hx, hy, go_sem, q1]
end
def crF (b _B0 Bq : Nat) (qq : Wr) (kv : Value) (k gk ok z : Nat) (i : Nat) (v : Value) (_ : World) : Prop := match i with
  | 46 => v = ptr b
  | 47 => v = ptr Bq
  | 48 => v = .string qq.name
  | 49 => v = .pointer (some ⟨Bq, 3, none⟩)
  | 50 => v = cv qq.now
  | 51 => v = kv
  | 52 => v = .int .i64 (k : Int)
  | 53 => v = .pointer (some ⟨gk, ok + k, none⟩)
  | 54 => v = .int .i64 (z : Int)
  | 55 => v = cv (begun qq.now z)
  | _ => True
set_option maxHeartbeats 4000000 in
set_option maxRecDepth 100000 in
theorem crash_any {w : World} {S : Nat → Prop} {b : Nat} {s : St} (h : IsSt w S b s) {N : Nat} (hF : Fit N s) (hN : N ≤ 400000) (hlv : s.writes ≠ [] → s.live = true) (kv : Value) (ks : List Int) (hk : RdI w kv ks) (hkl : ks.length ≤ 9223372036854775807) (hkS : ∀ g o n c, kv = .slice (some ⟨g, o, none⟩) n c → 0 < n → ¬ S g) :
    Calls Tryz.prog 29 #[ptr b, kv] w fun e w' => e = .returned (er 0) ∧ After w w' S b (crashS s ks) := by
  have hbx0 : Has (w.alloc (.cells #[ptr b] 63)) w.heap.size #[ptr b] 63 := Has.new _ _ _ _ rfl
  have h0 := h.below (boxed w (.cells #[ptr b] 63))
  have hSet := settle_eq h0
  obtain ⟨mo, wv, h1, h2, h3, h4, h5, h6, h7, h8⟩ := h0
  obtain ⟨c0, c1, c2, c3, c4, c5, c6⟩ := scells_cell h1
  obtain ⟨wa, wc, hwv⟩ := row_slice h3
  subst hwv
  have x0 : (w.alloc (.cells #[ptr b] 63)).cell? ⟨w.heap.size, 0, none⟩ = some (ptr b) := hbx0.cell 0
  have hbne : w.heap.size ≠ b := by have := h.lt; omega
  have x1 : ((w.alloc (.cells #[ptr b] 63)).setCell ⟨b, 1, none⟩ (.slice none 0 0)).cell? ⟨w.heap.size, 0, none⟩ = some (ptr b) := (hbx0.other ⟨b, 1, none⟩ _ hbne).cell 0
  have HA := hid h1
  have HMV := hid h2
  have HRow := hid h3
  have HH := hid h
  have HX := hid hbx0
  clear h1 h2 h3 h hbx0 c0 c2 c3 c4 c5 c6
  unfold ptr er at *
  refine (callsIn_wide (n := 6)).1 ?_
  refine callsIn_of_wp_marks Tryz.func29 rfl trivial ?_ rfl
  simp only [Tryz.ntmps29, List.size_toArray, List.length_cons, List.length_nil, Nat.reduceAdd, Nat.reduceSub, Array.replicate_succ, Array.replicate_zero, List.push_toArray, List.append_toArray, List.nil_append, List.cons_append]
  refine wpIn_wide.2 ?_
  go_wp2_with fail
  refine hSet.mono ?_
  rintro e w1 ⟨rfl, rfl⟩
  clear hSet
  have hBk := backward_any wa s.writes.length wc ((w.alloc (.cells #[.pointer (some ⟨b, 0, none⟩)] 63)).setCell ⟨b, 1, none⟩ (.slice none 0 0))
  go_wp2_with fail
  refine hBk.mono ?_
  rintro e w1 ⟨rfl, rfl⟩
  clear hBk
  go_wp2_with fail
  have hs2 : (((w.alloc (.cells #[.pointer (some ⟨b, 0, none⟩)] 63)).setCell ⟨b, 1, none⟩ (.slice none 0 0)).alloc (.cells #[.slice wa s.writes.length wc] 99)).heap.size = w.heap.size + 2 := by simp [World.setCell]
  have hs1 : ((w.alloc (.cells #[.pointer (some ⟨b, 0, none⟩)] 63)).setCell ⟨b, 1, none⟩ (.slice none 0 0)).heap.size = w.heap.size + 1 := by simp [World.setCell]
  have hst : Has (((w.alloc (.cells #[.pointer (some ⟨b, 0, none⟩)] 63)).setCell ⟨b, 1, none⟩ (.slice none 0 0)).alloc (.cells #[.slice wa s.writes.length wc] 99)) b (scells mo (.slice none 0 0) s) 103 := (HA.out.set 1 _).alloc _
  have hmv : MapV (((w.alloc (.cells #[.pointer (some ⟨b, 0, none⟩)] 63)).setCell ⟨b, 1, none⟩ (.slice none 0 0)).alloc (.cells #[.slice wa s.writes.length wc] 99)) mo s.seen := (HMV.out.setb HA.out 1 _).block fun m _ hl => Below.heap_alloc _ _ _ hl
  have hrw := (row_setb HRow.out HA.out (by decide) 1 (.slice none 0 0)).alloc (.cells #[.slice wa s.writes.length wc] 99)
  have hb0 := (HX.out.other ⟨b, 1, none⟩ (.slice none 0 0) hbne).alloc (.cells #[.slice wa s.writes.length wc] 99)
  have hcb := Has.new ((w.alloc (.cells #[.pointer (some ⟨b, 0, none⟩)] 63)).setCell ⟨b, 1, none⟩ (.slice none 0 0)) (w.heap.size + 1) #[.slice wa s.writes.length wc] 99 hs1.symm
  have hO2 : Only S w (((w.alloc (.cells #[.pointer (some ⟨b, 0, none⟩)] 63)).setCell ⟨b, 1, none⟩ (.slice none 0 0)).alloc (.cells #[.slice wa s.writes.length wc] 99)) := (((Only.refl S w).alloc _).set (.inl h4) _).alloc _
  generalize ((w.alloc (.cells #[.pointer (some ⟨b, 0, none⟩)] 63)).setCell ⟨b, 1, none⟩ (.slice none 0 0)).alloc (.cells #[.slice wa s.writes.length wc] 99) = W2 at *
  obtain ⟨S1, hS1⟩ : ∃ S1 : Nat → Prop, S1 = fun i => S i ∧ (Value.slice wa s.writes.length wc).ownBlock ≠ some i := ⟨_, rfl⟩
  have h7' : ∀ i, S i → i < w.heap.size := HH.out.bound
  have hS1S : ∀ i, S1 i → S i := fun i hi => by rw [hS1] at hi; exact hi.1
  have hI2 : IsSt W2 S1 b { s with writes := [] } := ⟨mo, .slice none 0 0, hst, hmv, World.ownsRow_nil _ _ _ _, by rw [hS1]; exact ⟨h4, fun e => row_ne hrw hst (by decide) b e rfl⟩, fun m hm => by rw [hS1]; exact ⟨h5 m hm, fun e => map_row_ne hmv hrw m hm e⟩, fun g hg => by simp [Value.ownBlock] at hg, fun i hi => by have := h7' i (hS1S i hi); omega, h8⟩
  obtain ⟨T, hT⟩ : ∃ T : Nat → Prop, T = fun i => S1 i ∨ w.heap.size + 2 ≤ i := ⟨_, rfl⟩
  have hTcb : ¬ T (w.heap.size + 1) := fun hh => by
    rw [hT] at hh
    rcases hh with hh | hh
    · have := h7' _ (hS1S _ hh); omega
    · omega
  have hTg : ∀ g, (Value.slice wa s.writes.length wc).ownBlock = some g → ¬ T g := fun g hg hh => by
    rw [hT] at hh
    rcases hh with hh | hh
    · rw [hS1] at hh; exact hh.2 hg
    · have := (hrw.lt g hg).2; omega
  have hTS : ∀ i, S1 i → T i := fun i hi => by rw [hT]; exact .inl hi
  have hTn : ∀ i, w.heap.size + 2 ≤ i → T i := fun i hi => by rw [hT]; exact .inr hi
  have hwl : s.writes.length ≤ 400000 := Nat.le_trans hF.writes hN
  have hsl : s.seen.length ≤ 400000 := Nat.le_trans hF.seen hN
  refine wpIn_wide (n := 6).1 ?_
  refine wpIn_rangeFunc_ownH (α := Itm s.writes) (F := Fence.wide) (n := 6) rfl (by omega) (gf := 80) (lb := #[.pointer (some ⟨w.heap.size + 1, 0, none⟩)]) rfl trivial (enters_of Tryz.func80 (by kernel_rfl) rfl)
    (back_stops 5 (w.heap.size + 1) (.slice wa s.writes.length wc) s.writes (by omega) T W2 hcb hrw hTcb hTg)
    (fun h1 h2 => h1.trans h2 fun _ h => .inl h)
    (fun W l o o' hl ho hc hw => Only.of_grown (grownBy_putObj' W l o') fun k hk => by cases hk; exact hTn _ (by omega))
    (Below.refl _ _) (fun _ => rfl)
    (fun pre W => IsSt W S1 b { s with writes := [], seen := undo s.seen (pre.map (·.1.2)) } ∧ Only T W2 W)
    (fun _ _ _ => False)
    (fun pre X Y row hs hg hr => ⟨hs.1.only (Only.of_grown (S := fun i => row = some i) hg fun k hk => hk) fun i hi hk => by
        have h1 := (hr i hk).1
        have := h7' i (hS1S i hi); omega,
      hs.2.trans (Only.of_grown (S := T) hg fun k hk => hTn k (by have := (hr k hk).1; omega)) fun _ h => .inl h⟩)
    (fun _ _ _ _ _ hs _ _ => hs)
    ⟨hI2, Only.refl _ _⟩
    (fun x a' W => ∃ Bx, w.heap.size + 2 ≤ Bx ∧ Has W Bx (wcells x.1.2).toArray 122 ∧ a' = { tmps := #[.pointer (some ⟨b, 0, none⟩), kv, .pointer (some ⟨w.heap.size, 0, none⟩), undef, .int .i64 0, .slice wa s.writes.length wc, undef, .pointer (some ⟨Bx, 0, none⟩), undef, undef, .pointer (some ⟨b, 0, none⟩), .bool false, .pointer (some ⟨b, 0, none⟩), .pointer (some ⟨b, 0, none⟩), .pointer (some ⟨b, 1, none⟩), .slice wa s.writes.length wc, .pointer (some ⟨b, 0, none⟩), .tuple #[], .slice wa s.writes.length wc, .func (.func 80) #[] #[.pointer (some ⟨w.heap.size + 1, 0, none⟩)], .int .i64 (x.1.1 : Int), .agg (wcells x.1.2).toArray, undef, undef, undef, undef, undef, undef, undef, undef, undef, undef, undef, undef, undef, undef, undef, undef, undef, undef, undef, undef, undef, undef, undef, undef, undef, undef, undef, undef, undef, undef, undef, undef, undef, undef, undef, undef], defers := [] })
    (fun x a' _ X Y row hs hg hr => by
      obtain ⟨Bx, h1, h2, h3⟩ := hs
      refine ⟨Bx, h1, ?_, h3⟩
      have hl := h2.lt
      unfold Has at h2 ⊢
      rw [hg.block Bx hl fun e => by
        obtain ⟨_, o, ho, hc⟩ := hr Bx e.symm
        rw [h2] at ho; cases ho; cases hc]
      exact h2)
    ?assign ?body ?done ?stop
  case assign =>
    rintro l pre x W K ⟨hi1, hi2⟩ hK
    have hsa := @Oper.semAt_some
    unfold itmV wcells at *
    gi_wp2
    refine hK _ _ ((KeepsOthers.alloc _ _).from _) (Only.of_below (boxed W _)) ⟨hi1.below (boxed W _), hi2.alloc _⟩ ⟨W.heap.size, by have := hi2.size; omega, Has.new _ _ _ _ rfl, rfl⟩
  case body =>
    rintro l pre x a' W hl hr ⟨hi1, hi2⟩ ⟨Bx, hBx, hX, rfl⟩ hlt
    have hsa := @Oper.semAt_some
    have hbW : Has W w.heap.size #[.pointer (some ⟨b, 0, none⟩)] 63 := hi2.has hb0 fun hh => by
      rw [hT] at hh
      rcases hh with hh | hh
      · have := h7' _ (hS1S _ hh); omega
      · omega
    have y0 := hbW.cell 0
    have d0 : W.cell? ⟨Bx, 0, none⟩ = some (.string x.1.2.name) := hX.cell 0
    have d1 : W.cell? ⟨Bx, 1, none⟩ = some (.bool x.1.2.was.isSome) := hX.cell 1
    have d2 : W.cell? ⟨Bx, 2, none⟩ = some (.string (x.1.2.was.getD ⟨#[]⟩)) := hX.cell 2
    have hlive : s.live = true := hlv fun e => by
      have e2 : s.writes.length = 0 := by rw [e]; rfl
      omega
    have hL := live_any hi1 hlive x.1.2.name x.1.2.was (by have := hF.wnames _ x.2; unfold maxLen; omega) (by
      show (undo s.seen _).length < _
      have := undo_le (pre.map (·.1.2)) s.seen
      rw [List.length_map] at this
      unfold maxLen; omega)
    unfold cv ptr at hL
    have HI2 := hid hi2
    have HU := hid (show undo s.seen ((pre ++ [x]).map (·.1.2)) = setC x.1.2.name x.1.2.was (undo s.seen (pre.map (·.1.2))) from by rw [List.map_append]; exact undo_snoc _ _ _)
    clear hi1 hi2 hbW hX hlive hlt hr
    gi_wp2_with fail
    refine ⟨trivial, (CallsIn.inRound l (callsIn_wide.2 hL)).mono ?_⟩
    rintro e w' ⟨rfl, hSt⟩
    gi_wp2_with fail
    refine ⟨⟨hSt.2.size, fun k o hB hk _ => (hSt.2.block k (Array.getElem?_eq_some_iff.1 hk).1 fun hh => by have := h7' k (hS1S k hh); omega).trans hk⟩, hSt.2.mono hTS, ?_, HI2.out.trans hSt.2 fun i hi => .inl (hTS i hi)⟩
    rw [HU.out]
    exact hSt.1
  case done =>
    rintro D ys W hD hys ⟨hi1, hi2⟩ hK
    rw [hys] at hi1
    have hrW : W.ownsRow 0 122 5 (.slice wa s.writes.length wc) s.writes.length (s.writes.flatMap wcells) := row_block hrw fun g hg hl => hi2.block g hl (hTg g hg)
    have hb0W : Has W w.heap.size #[.pointer (some ⟨b, 0, none⟩)] 63 := hi2.has hb0 fun hh => by
      rw [hT] at hh
      rcases hh with hh | hh
      · have := h7' _ (hS1S _ hh); omega
      · omega
    have hkW : RdI W kv ks ∧ ∀ g o n c, kv = .slice (some ⟨g, o, none⟩) n c → 0 < n → ¬ S1 g := by
      refine ⟨?_, fun g o n c e hn hh => hkS g o n c e hn (hS1S g hh)⟩
      rcases hk with hk | ⟨g, o, cap, e0, e1, e2, e3⟩
      · exact .inl hk
      · have hnS := hkS g o _ _ e1 e0
        refine .inr ⟨g, o, cap, e0, e1, by have := hi2.size; omega, fun j z hj => ?_⟩
        have h1 := e3 j z hj
        unfold World.cell? at h1 ⊢
        rw [hi2.block g (by omega) fun hh => by
          rw [hT] at hh
          rcases hh with hh | hh
          · exact hnS (hS1S g hh)
          · omega, hO2.block g e2 hnS]
        exact h1
    have hOW : Only S w W := hO2.trans hi2 fun i hi => by
      rw [hT] at hi
      exact hi.imp (hS1S i) (by omega)
    have HNg := hid (show ∀ g, (Value.slice wa s.writes.length wc).ownBlock = some g → ¬ S1 g from fun g hg hh => by rw [hS1] at hh; exact hh.2 hg)
    have hS1b : ∀ i, S1 i → i < w.heap.size := fun i hi => h7' i (hS1S i hi)
    have hws2 : w.heap.size + 2 ≤ W.heap.size := by have := hi2.size; omega
    have hnamesW := hF.wnames
    have hnowW := hF.now
    have HK := hid hK
    have HI := hid hi1
    have HRW := hid hrW
    have HBW := hid hb0W
    have HKW := hid hkW
    have HOW := hid hOW
    have HS1b := hid hS1b
    have HS1S := hid hS1S
    have HNM := hid hnamesW
    have hlvv := hlv
    clear hlv
    have HNW := hid hnowW
    clear hK hi1 hi2 hrW hb0W hkW hOW hS1b hys hI2 hst hmv hrw hb0 hcb hO2 hTcb hTg hTS hTn hT HA HMV HRow HX h7' hS1S hk hkS h4 h5 h6 h7 h8 x0 x1 c1 hF hnamesW hnowW
    have hlenkv : ∀ W' ty, (Builtin.len_ #[54] ty #[kv]).run Tryz.prog W' = .ok (.int .i64 (ks.length : Int)) W' := fun W' ty => by
      rcases HKW.out.1 with ⟨A, c, e1, e2⟩ | ⟨g, o, cap, _, e1, _⟩
      · rw [e1, e2]; simp [Builtin.len_, run_underlying Tryz.underlying54, goInt]
      · rw [e1]; simp [Builtin.len_, run_underlying Tryz.underlying54, goInt]
    generalize hn : s.writes.length = n at *
    have HN' := hid hn
    go_wp2_with fail
    go_loopg [30] n (fun gk s30 wx => ∃ k : Nat, k + gk = n ∧ s30 = .int .i64 (k : Int) ∧ IsSt wx S1 b { s with writes := [], seen := redo s.writes ks (undo s.seen s.writes.reverse) k } ∧ Only S1 W wx)
    case atStart => exact ⟨0, by omega, rfl, HI.out, Only.refl _ _⟩
    case round =>
      obtain ⟨k, hkg, rfl, hI, hO⟩ := hrel
      have HIr := hid hI
      have HOr := hid hO
      clear hI hO
      cases gk with
      | zero =>
        have q1 : ¬ ((k : Int) < (n : Int)) := by omega
        have hkn : k = n := by omega
        have hKr : wr.heap[D]? = some (.deferred (some [])) := (HOr.out.block D (Array.getElem?_eq_some_iff.1 HK.out).1 fun hh => by have := HS1b.out D hh; omega).trans HK.out
        go_wp2_with fail
        refine ⟨by simp, .inl ⟨_, _, rfl, run_takeDeferred hKr, ?_⟩⟩
        refine ⟨_, results_tmp rfl _ _ _, rfl, S1, ?_, fun i hi => .inl (HS1S.out i hi), ?_⟩
        · have hII := HIr.out.only (Only.of_grown (S := fun i => some D = some i) (grownBy_putObj' wr D (.deferred none)) fun k hk => hk) fun i hi e => by
            cases e; have := HS1b.out _ hi; omega
          rw [hkn, ← HN'.out] at hII
          exact hII
        · exact (HOW.out.trans HOr.out fun i hi => .inl (HS1S.out i hi)).trans (Only.of_grown (S := fun i => i = D) (grownBy_putObj' wr D (.deferred none)) fun k hk => by cases hk; rfl) fun i hi => .inr (by omega)
      | succ g1 =>
        have q1 : (k : Int) < (n : Int) := by omega
        have hkl' : k < s.writes.length := by rw [HN'.out]; omega
        obtain ⟨qq, hqq⟩ : ∃ q, s.writes[k]? = some q := ⟨_, List.getElem?_eq_getElem hkl'⟩
        have hqm := List.mem_of_getElem? hqq
        have hrowr : wr.ownsRow 0 122 5 (.slice wa n wc) s.writes.length (s.writes.flatMap wcells) := row_block (by rw [HN'.out]; exact HRW.out) fun g hg hl => HOr.out.block g hl (HNg.out g hg)
        obtain ⟨g, cap, hv, hg, hc⟩ := wr_cells hrowr hqq
        cases hv
        have e0 : wr.cell? ⟨g, k * 5, none⟩ = some (.string qq.name) := hc 0 _ rfl
        have e1 := hc 1 _ rfl
        have e2 := hc 2 _ rfl
        have e3 := hc 3 _ rfl
        have e4 := hc 4 _ rfl
        have hnm : qq.name.size ≤ maxLen := by have := HNM.out _ hqm; unfold maxLen; omega
        have hnow : (qq.now.getD ⟨#[]⟩).size ≤ 1000000 := by have := HNW.out _ hqm; omega
        have HRS := hid (redo_succ s.writes ks (undo s.seen s.writes.reverse) k)
        have HSK : Hid (stepK s.writes ks (redo s.writes ks (undo s.seen s.writes.reverse) k) k = match ks[k]? with | some z => if 0 ≤ z then setC qq.name (begun qq.now z.toNat) (redo s.writes ks (undo s.seen s.writes.reverse) k) else redo s.writes ks (undo s.seen s.writes.reverse) k | none => redo s.writes ks (undo s.seen s.writes.reverse) k) := hid (by
          unfold stepK; rw [hqq]; cases ks[k]? <;> rfl)
        clear hc hqq hrowr
        by_cases hkk : k < ks.length
        · obtain ⟨zz, hz⟩ : ∃ z, ks[k]? = some z := ⟨_, List.getElem?_eq_getElem hkk⟩
          obtain ⟨gk, ok, kc, ekv, hgk, hnS, hck⟩ : ∃ gk ok kc, kv = .slice (some ⟨gk, ok, none⟩) ks.length kc ∧ gk < W.heap.size ∧ ¬ S1 gk ∧ W.cell? ⟨gk, ok + k, none⟩ = some (.int .i64 zz) := by
            rcases HKW.out.1 with ⟨_, _, _, e⟩ | ⟨g, o, c, e0, e1, e2, e3⟩
            · rw [e] at hkk; simp at hkk
            · exact ⟨g, o, c, e1, e2, HKW.out.2 g o _ _ e1 e0, e3 k zz hz⟩
          have z0 : wr.cell? ⟨gk, ok + k, none⟩ = some (.int .i64 zz) := by
            unfold World.cell? at hck ⊢
            rw [HOr.out.block gk hgk hnS]; exact hck
          have hgkr : gk < wr.heap.size := Nat.lt_of_lt_of_le hgk HOr.out.size
          have q2 : (k : Int) < (ks.length : Int) := by omega
          subst ekv
          clear hck
          by_cases hz0 : 0 ≤ zz
          · obtain ⟨z, rfl⟩ := Int.eq_ofNat_of_zero_le hz0
            have HNext := hid (show redo s.writes ks (undo s.seen s.writes.reverse) (k + 1) = setC qq.name (begun qq.now z) (redo s.writes ks (undo s.seen s.writes.reverse) k) from by rw [HRS.out, HSK.out, hz]; simp)
            have hboxr : Has wr w.heap.size #[.pointer (some ⟨b, 0, none⟩)] 63 := HOr.out.has HBW.out fun hh => by have := HS1b.out _ hh; omega
            have hboxA := hboxr.alloc (.cells (wcells qq).toArray 122)
            have hnewA := Has.new wr wr.heap.size (wcells qq).toArray 122 rfl
            have y0 : (wr.alloc (.cells (wcells qq).toArray 122)).cell? ⟨w.heap.size, 0, none⟩ = some (ptr b) := hboxA.cell 0
            have l0 : w.heap.size < (wr.alloc (.cells (wcells qq).toArray 122)).drew.heap.size := hboxA.lt
            have l1 : wr.heap.size < (wr.alloc (.cells (wcells qq).toArray 122)).drew.heap.size := hnewA.lt
            have l2 : gk < (wr.alloc (.cells (wcells qq).toArray 122)).drew.heap.size := Nat.lt_trans hgkr l1
            have n0 : (wr.alloc (.cells (wcells qq).toArray 122)).cell? ⟨wr.heap.size, 0, none⟩ = some (.string qq.name) := hnewA.cell 0
            have n3 : (wr.alloc (.cells (wcells qq).toArray 122)).cell? ⟨wr.heap.size, 3, none⟩ = some (.bool qq.now.isSome) := hnewA.cell 3
            have n4 : (wr.alloc (.cells (wcells qq).toArray 122)).cell? ⟨wr.heap.size, 4, none⟩ = some (.string (qq.now.getD ⟨#[]⟩)) := hnewA.cell 4
            have z1 : (wr.alloc (.cells (wcells qq).toArray 122)).cell? ⟨gk, ok + k, none⟩ = some (.int .i64 (z : Int)) := by
              rw [(boxed wr (.cells (wcells qq).toArray 122)).cell (p := ⟨gk, ok + k, none⟩) hgkr]; exact z0
            have hlive : s.live = true := hlvv fun e => by rw [e] at hkl'; simp at hkl'
            have hlen2 : (redo s.writes ks (undo s.seen s.writes.reverse) k).length < maxLen := by
              have u1 := redo_le s.writes ks (undo s.seen s.writes.reverse) k
              have u2 := undo_le s.writes.reverse s.seen
              rw [List.length_reverse] at u2
              unfold maxLen; omega
            clear hz hboxr hboxA hnewA HSK HRS
            go_wp2_with fail
            refine Tl.wp_mix_lit (by kernel_rfl) 10 [46, 47, 48, 49, 50, 51, 52, 53, 54, 55] 58 rfl (by kernel_rfl) (BelW (wr.alloc (.cells (wcells qq).toArray 122)).drew) (crF b w.heap.size wr.heap.size qq (.slice (some ⟨gk, ok, none⟩) ks.length kc) k gk ok z) (Below.refl _ _)
              ⟨fun a' W' hC hF => ?_, fun a' W' hC hF => ?_, fun a' W' hC hF => ?_, fun a' W' hC hF => ?_, fun a' W' hC hF => ?_, fun a' W' hC hF => ?_, fun a' W' hC hF => ?_, fun a' W' hC hF => ?_, fun a' W' hC hF => ?_, fun a' W' hC hF => ?_, trivial⟩ ?_
            · exact Tl.sm_v 46 _ rfl (Tl.wanted_none rfl) hC rfl (rn_load23 rfl ((hF 2 (by decide +kernel)).2 (by decide)) (hC.cell (p := ⟨w.heap.size, 0, none⟩) l0 y0))
            · exact Tl.sm_v 47 _ rfl (Tl.wanted_none rfl) hC rfl (rn_f83_0 rfl ((hF 9 (by decide +kernel)).2 (by decide)))
            · exact Tl.sm_v 48 _ rfl (Tl.wanted_none rfl) hC rfl (rn_load9 rfl ((hF 47 (by decide +kernel)).1 (by decide)) (hC.cell (p := ⟨wr.heap.size, 0, none⟩) l1 n0))
            · exact Tl.sm_v 49 _ rfl (Tl.wanted_none rfl) hC rfl (rn_f83_2 rfl ((hF 9 (by decide +kernel)).2 (by decide)))
            · exact Tl.sm_v 50 _ rfl (Tl.wanted_none rfl) hC rfl (rn_load67 rfl ((hF 49 (by decide +kernel)).1 (by decide)) (hC.cell (p := ⟨wr.heap.size, 3, none⟩) l1 n3) (hC.cell (p := ⟨wr.heap.size, 4, none⟩) l1 n4))
            · exact Tl.sm_v 51 _ rfl (Tl.wanted_none rfl) hC rfl (rn_move rfl ((hF 1 (by decide +kernel)).2 (by decide)))
            · exact Tl.sm_v 52 _ rfl (Tl.wanted_none rfl) hC rfl (rn_move rfl ((hF 8 (by decide +kernel)).2 (by decide)))
            · exact Tl.sm_v 53 _ rfl (Tl.wanted_none rfl) hC rfl (rn_ix39 rfl ((hF 51 (by decide +kernel)).1 (by decide)) ((hF 52 (by decide +kernel)).1 (by decide)) hkk)
            · exact Tl.sm_v 54 _ rfl (Tl.wanted_none rfl) hC rfl (rn_load3 rfl ((hF 53 (by decide +kernel)).1 (by decide)) (hC.cell (p := ⟨gk, ok + k, none⟩) l2 z1))
            · refine Tl.sm_call 57 #[cv qq.now, .int .i64 (z : Int)] (Tl.wanted_none rfl) (rn_call2 rfl rfl ((hF 50 (by decide +kernel)).1 (by decide)) ((hF 54 (by decide +kernel)).1 (by decide)) (enter58 _)) ((begin_any qq.now z W' hnow).mono ?_)
              rintro e w'' ⟨rfl, b1⟩
              exact ⟨_, rfl, Below.trans hC (b1.mono hC.size), fun _ _ _ h => h, fun d hd => by cases hd; rfl⟩
            intro v w4 hw4 hv
            have v46 : v 46 = .pointer (some ⟨b, 0, none⟩) := hv 46 (by decide)
            have v48 : v 48 = .string qq.name := hv 48 (by decide)
            have v55 : v 55 = cv (begun qq.now z) := hv 55 (by decide)
            have hset := live_any (IsSt.below (HIr.out.below (boxed wr (.cells (wcells qq).toArray 122))).drew hw4) hlive qq.name (begun qq.now z) hnm hlen2
            have hO4 := hid (HOr.out.next ((boxed wr (.cells (wcells qq).toArray 122)).drew.trans (Below.mono hw4 (by simp [World.drew]))))
            unfold ptr at hset
            unfold cv at hset v55
            clear hv hw4 y0 l0 l1 l2 n0 n3 n4 z0 z1 e0 e1 e2 e3 e4
            simp only [Tl.fill, List.drop_succ_cons, List.drop_zero]
            simp only [Act.put, List.setIfInBounds_toArray, List.set_cons_succ, List.set_cons_zero, v46, v48, v55]
            go_wp2_with fail
            refine hset.mono ?_
            rintro e w5 ⟨rfl, hs5⟩
            have HS5 := hid hs5
            clear hset hs5
            go_wp2_with fail
            go_roundg g1
            case measure => omega
            case rel => exact ⟨k + 1, by omega, by first | rfl | simp, by rw [HNext.out]; exact HS5.out.1, hO4.out.trans HS5.out.2 fun _ h => .inl h⟩
          · have HNext := hid (show redo s.writes ks (undo s.seen s.writes.reverse) (k + 1) = redo s.writes ks (undo s.seen s.writes.reverse) k from by rw [HRS.out, HSK.out, hz]; simp [hz0])
            have z1 : ∀ o, (wr.alloc o).cell? ⟨gk, ok + k, none⟩ = some (.int .i64 zz) := fun o => by
              rw [(boxed wr o).cell (p := ⟨gk, ok + k, none⟩) hgkr]; exact z0
            have q3 : decide ((0 : Int) ≤ zz) = false := decide_eq_false hz0
            clear hz
            go_wp2_with fail
            go_roundg g1
            case measure => omega
            case rel => exact ⟨k + 1, by omega, by first | rfl | simp, by rw [HNext.out]; exact HIr.out.below (boxed _ _), HOr.out.alloc _⟩
        · have q2 : ¬ ((k : Int) < (ks.length : Int)) := by omega
          have hnz : ks[k]? = none := List.getElem?_eq_none (by omega)
          have HNext := hid (show redo s.writes ks (undo s.seen s.writes.reverse) (k + 1) = redo s.writes ks (undo s.seen s.writes.reverse) k from by rw [HRS.out, HSK.out, hnz])
          clear hnz
          go_wp2_with fail
          go_roundg g1
          case measure => omega
          case rel => exact ⟨k + 1, by omega, by first | rfl | simp, by rw [HNext.out]; exact HIr.out.below (boxed _ _), HOr.out.alloc _⟩
  case stop =>
    rintro D c pre W _ _ hh
    exact hh.elim
end Go.Proofs.YtmpgfpmkmgebdaaGreatDoor.W
