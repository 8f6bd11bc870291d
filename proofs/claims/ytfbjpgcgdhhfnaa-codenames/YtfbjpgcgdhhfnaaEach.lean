/- All rows but one are handed on; rows move down by one. -/
import Derived.Test.YtfbjpgcgdhhfnaaRow
namespace Go.Proofs.Ytfbjpgcgdhhfnaa
open Go.RowKit
theorem takeOff_any (F gd W cap c : Nat) (w : World) :
    Calls Try.prog 64 #[.pointer (some ⟨F, 0, none⟩), .slice (some ⟨gd, 0, none⟩) W cap, .int .i64 (c : Int)] w fun e w' => ∃ bc br bf, e = .returned (.func (.func 65) #[] #[.pointer (some ⟨bc, 0, none⟩), .pointer (some ⟨br, 0, none⟩), .pointer (some ⟨bf, 0, none⟩)]) ∧
      w.heap.size ≤ bc ∧ w.heap.size ≤ br ∧ w.heap.size ≤ bf ∧ Has w' bc #[.int .i64 (c : Int)] 3 ∧ Has w' br #[.slice (some ⟨gd, 0, none⟩) W cap] 31 ∧ Has w' bf #[.pointer (some ⟨F, 0, none⟩)] 58 ∧ Below w.heap.size w w' := by
  have hmf : ∀ (fn : Fn) (first cap : Array Value) (w : World), (Instr.makeFunc fn first cap).run Try.prog w = .ok (.func fn first cap) w := fun _ _ _ _ => rfl
  go_enter Try.func64, Try.ntmps64
  go_wp2_with fail
  go_ret
  refine ⟨_, _, _, rfl, by omega, by omega, by omega, Has.new _ _ _ _ (by simp), (Has.new _ _ _ _ (by simp)).alloc _, ((Has.new w _ _ _ rfl).alloc _).alloc _, ?_⟩
  exact (((Below.refl _ _).alloc (Nat.le_refl _) _).alloc (by simp) _).alloc (by simp; omega) _
theorem offT_row (d c k : Nat) (f : El.M) : ∀ j, El.offT d c k f k j = f k j := fun j => by unfold El.offT; rw [if_neg (by omega)]
theorem offT_d (d c k : Nat) (f : El.M) : ∀ j, El.offT d c k f d j = f d j := fun j => by unfold El.offT; rw [if_neg (by omega)]
theorem offT_more (d c k m : Nat) (f : El.M) (hm : m ≠ k) : ∀ j, El.offT d c (k + 1) f m j = El.offT d c k f m j := fun j => by
  unfold El.offT
  by_cases h : m < k ∧ m ≠ d
  · rw [if_pos h, if_pos ⟨by omega, h.2⟩]
  · rw [if_neg h, if_neg (by omega)]
theorem offT_new (d c k W : Nat) (f : El.M) (hk : k ≠ d) (hz : ∀ j, j < c → f d j = 0) : ∀ j, j < W → El.offT d c (k + 1) f k j = offTo (f k) (f d) c (f k c) W j := fun j hj => by
  unfold El.offT offTo
  rw [if_pos ⟨by omega, hk⟩]
  by_cases hc : c ≤ j
  · rw [if_pos ⟨hc, hj⟩, Fld.mul_comm]
  · rw [if_neg (by omega), hz j (by omega), Fld.mul_zero, Nat.xor_zero]
set_option maxRecDepth 20000 in
theorem eachOther_any (base top T R W cap c d F gd cap' bc br bf : Nat) (f : El.M) (w : World) (h : MW base top T R (fun _ => W) f w) (hd : d < R) (hc : c < W) (hR : R ≤ 1000000) (hz : ∀ j, j < c → f d j = 0)
    (hF : Has w F FC 79) (hbc : Has w bc #[.int .i64 (c : Int)] 3) (hbr : Has w br #[.slice (some ⟨gd, 0, none⟩) W cap'] 31) (hbf : Has w bf #[.pointer (some ⟨F, 0, none⟩)] 58) (t1 : top ≤ F) (t2 : top ≤ bc) (t3 : top ≤ br) (t4 : top ≤ bf)
    (hgd : w.cell? ⟨T, d, none⟩ = some (.slice (some ⟨gd, 0, none⟩) W cap')) :
    Calls Try.prog 63 #[.slice (some ⟨T, 0, none⟩) R cap, .int .i64 (d : Int), .func (.func 65) #[] #[.pointer (some ⟨bc, 0, none⟩), .pointer (some ⟨br, 0, none⟩), .pointer (some ⟨bf, 0, none⟩)]] w fun e w' => e = .returned (.tuple #[]) ∧ MW base top T R (fun _ => W) (El.offT d c R f) w' ∧ Keeps base top w w' := by
  have HM : Hid (MW base top T R (fun _ => W) (El.offT d c 0 f) w) := by rw [El.offT_zero]; exact h
  have hbt : base ≤ top := Nat.le_trans h.1 (Nat.le_of_lt h.2.1)
  have hT : T < top := h.2.1
  clear h
  go_enter Try.func63, Try.ntmps63
  go_wp2_with fail
  go_loopw [10] (fun vi wr => ∃ k : Nat, k ≤ R ∧ vi = .int .i64 (k : Int) ∧ Hid (MW base top T R (fun _ => W) (El.offT d c k f) wr) ∧ Keeps base top w wr ∧ wr.cell? ⟨T, d, none⟩ = some (.slice (some ⟨gd, 0, none⟩) W cap')) (fun vi _ => R - (intOf vi).toNat)
  case atStart => exact ⟨0, by omega, rfl, HM, Keeps.refl _ _ _, hgd⟩
  case round =>
    obtain ⟨k, hk, rfl, hM, hK, hTd⟩ := hrel
    clear HM hgd
    by_cases hlt : k < R
    · obtain ⟨g, cp, q1, q2, q3, q4, q5, q6, q7⟩ := hM.out.row k hlt (by omega)
      have d0 : (k : Int) < (R : Int) := by omega
      by_cases hkd : k = d
      · have e0 : ((k : Int) != (d : Int)) = false := by simp; omega
        have hM' : Hid (MW base top T R (fun _ => W) (El.offT d c (k + 1) f) wr) := by rw [El.offT_succ, if_pos hkd]; exact hM.out
        clear q5 q7
        go_wp2_with fail
        exact ⟨⟨k + 1, by omega, by simp [hkd], hM', hK, hTd⟩, by simp [intOf]; omega⟩
      · have e0 : ((k : Int) != (d : Int)) = true := by simp; omega
        obtain ⟨g2, cp2, p1, p2, p3, p4, p5, p6, p7⟩ := hM.out.row d hd (by omega)
        have hgg : g ≠ g2 := hM.out.two k d hlt hd hkd (by show 0 < W; omega) (by show 0 < W; omega) q1 p1
        have hge : g2 = gd := by
          rw [hTd] at p1
          simp only [Option.some.injEq, Value.slice.injEq, Addr.mk.injEq] at p1
          omega
        subst hge
        have hr : RowW wr g W (f k) := q5.congr fun j _ => (offT_row d c k f j).symm
        have hs : RowW wr g2 W (f d) := p5.congr fun j _ => (offT_d d c k f j).symm
        have HC := takeOff1_any F g g2 W cp cap' c bc br bf (f k) (f d) wr (hK.has hF t1) (hK.has hbc t2) (hK.has hbr t3) (hK.has hbf t4) hr hs q6 hc (by omega) (Ne.symm hgg) (by omega) (by omega) (by omega)
        have HQ : Hid (∀ W', RowW W' g W (offTo (f k) (f d) c (f k c) W) → Keeps g (g + 1) wr W' → MW base top T R (fun _ => W) (El.offT d c (k + 1) f) W' ∧ Keeps base top w W' ∧ W'.cell? ⟨T, d, none⟩ = some (.slice (some ⟨g2, 0, none⟩) W cap')) := fun W' h1 h2 => by
          refine ⟨q7 W' _ (h1.congr (offT_new d c k W f hkd hz)) h2 (fun m _ hmk j _ => offT_more d c k m f hmk j), hK.trans (h2.mono q2 (by omega)), ?_⟩
          have hTl : T < wr.heap.size := World.block_lt_of_cell? (h := hTd)
          by_cases hl : T < g
          · rw [cell_of (h2.1.block T hl)]; exact hTd
          · rw [cell_of (h2.2 T (by omega) hTl)]; exact hTd
        clear q5 q7 p5 p7 hr hs p1 hM
        go_wp2_with fail
        refine HC.mono ?_
        rintro e w1 ⟨rfl, h1, h2⟩
        obtain ⟨a1, a2, a3⟩ := HQ.out w1 h1 h2
        have A1 : Hid _ := a1
        clear a1 HC h1
        go_wp2_with fail
        exact ⟨⟨k + 1, by omega, rfl, A1, a2, a3⟩, by simp [intOf]; omega⟩
    · obtain rfl : k = R := by omega
      go_wp2_with fail
      go_end0
      exact ⟨rfl, hM.out, hK⟩
theorem setCells_cell {b : Nat} : ∀ (vs : List Value) (o : Nat) (w : World), (∀ j, j < vs.length → (w.cell? ⟨b, o + j, none⟩).isSome = true) → ∀ k, (w.setCells b o vs).cell? ⟨b, k, none⟩ = if o ≤ k ∧ k < o + vs.length then vs[k - o]? else w.cell? ⟨b, k, none⟩
  | [], o, w, _, k => by rw [if_neg (by simp only [List.length_nil]; omega)]; rfl
  | v :: vs, o, w, h, k => by
    rw [World.setCells]
    obtain ⟨u, hu⟩ := Option.isSome_iff_exists.1 (h 0 (by simp))
    rw [Nat.add_zero] at hu
    have hk : ∀ j, (w.setCell ⟨b, o, none⟩ v).cell? ⟨b, j, none⟩ = if j = o then some v else w.cell? ⟨b, j, none⟩ := fun j => by
      by_cases hj : j = o
      · subst hj; rw [if_pos rfl, World.cell?_setCell_same _ _ _ hu]
      · rw [if_neg hj, World.cell?_setCell_other _ _ _ _ (by simp only [ne_eq, Addr.mk.injEq]; omega)]
    rw [setCells_cell vs (o + 1) _ (fun j hj => by
      rw [hk, if_neg (by omega)]
      have := h (j + 1) (by simp; omega)
      rwa [show o + (j + 1) = o + 1 + j by omega] at this) k, hk]
    by_cases h1 : k = o
    · subst h1
      rw [if_neg (by omega), if_pos rfl, if_pos (by simp)]; simp
    · by_cases h2 : o + 1 ≤ k ∧ k < o + 1 + vs.length
      · rw [if_pos h2, if_pos (by simp; omega), show k - o = (k - (o + 1)) + 1 by omega, List.getElem?_cons_succ]
      · rw [if_neg h2, if_neg h1, if_neg (by simp; omega)]
theorem setCells_frozen {b : Nat} (a : Addr) : ∀ (vs : List Value) (o : Nat) (w : World), (w.setCells b o vs).frozen? a = w.frozen? a
  | [], _, _ => rfl
  | v :: vs, o, w => by rw [World.setCells, setCells_frozen a vs (o + 1), World.frozen?_setCell]
theorem setCells_heap {b k : Nat} (hk : k ≠ b) : ∀ (vs : List Value) (o : Nat) (w : World), (w.setCells b o vs).heap[k]? = w.heap[k]?
  | [], _, _ => rfl
  | v :: vs, o, w => by rw [World.setCells, setCells_heap hk vs (o + 1), setCell_other hk]
theorem setCells_size {b : Nat} : ∀ (vs : List Value) (o : Nat) (w : World), (w.setCells b o vs).heap.size = w.heap.size
  | [], _, _ => rfl
  | v :: vs, o, w => by rw [World.setCells, setCells_size vs (o + 1)]; simp [World.setCell]
/-- rows are copied one place on -/
theorem wpList_copyDown {ops : Array Oper} {rest : List Oper} {o : Oper} {a : Act} {w : World} {Q : Exit → Act → World → Prop} (hgd : o.guard = none) (dx sx : Operand)
    (ho : o.op = .call { callee := .builtin .copy, args := #[dx, sx], argTypes := #[46, 46] }) (T d n dc sc : Nat) (dp : Option Addr) (cs : List Value) (hd : a.eval dx = .slice dp n dc) (hs : a.eval sx = .slice (some ⟨T, d, none⟩) (n + 1) sc) (hdp : 0 < n → dp = some ⟨T, d + 1, none⟩)
    (hn : cs.length = n) (hsrc : ∀ j v, cs[j]? = some v → w.cell? ⟨T, d + j, none⟩ = some v) (hc : ∀ j, j < n → (w.cell? ⟨T, d + 1 + j, none⟩).isSome = true) (hf : ∀ j, j < n → w.frozen? ⟨T, d + 1 + j, none⟩ = false) (h1 : ∀ v ∈ cs, v.oneCell' = true)
    (h : wpList Try.prog ops Q rest (a.put o.dst (goInt n)) (w.setCells T (d + 1) cs)) : wpList Try.prog ops Q (o :: rest) a w := by
  by_cases h0 : n = 0
  · subst h0
    obtain rfl : cs = [] := List.eq_nil_of_length_eq_zero hn
    exact wpList_copy_nothing hgd dx sx 46 46 ho 31 Try.underlying46 (by kernel_rfl) dp _ 0 dc _ sc hd hs (Nat.min_zero _) h
  · obtain rfl := hdp (by omega)
    refine wpList_plain hgd fun K hK => ?_
    have hrun := run_copy_cells (P := Try.prog) w 46 46 o.type 31 T (d + 1) n dc ⟨T, d, none⟩ (n + 1) sc cs Try.underlying46 (by kernel_rfl) (by rw [hn]; exact (Nat.min_eq_right (by omega)).symm)
      (fun j v hv => by rw [Addr.add_mid]; exact hsrc j v hv) (fun j hj => hc j (by omega)) (fun j hj => hf j (by omega)) h1
    rw [hn] at hrun
    unfold Oper.wp
    simp [execOp, ho, resolve, invoke, builtin, hd, hs, hrun, Result.andThen]
    exact hK _ _ h
set_option maxRecDepth 20000 in
theorem raise_any (base top T R W d n cap : Nat) (f : El.M) (w : World) (h : MW base top T R (fun _ => W) f w) (hp : d + n < R) (hR : R ≤ 1000000) (hcap : n + 1 ≤ cap) (_hcap2 : cap ≤ 1000000) :
    Calls Try.prog 61 #[.slice (some ⟨T, d, none⟩) (n + 1) cap] w fun e w' => e = .returned (.tuple #[]) ∧ MW base top T R (fun _ => W) (El.raiseF d (d + n) f) w' ∧ Keeps base top w w' := by
  have HM : Hid (MW base top T R (fun _ => W) f w) := h
  obtain ⟨h1, h2, h3, B, h4⟩ := h
  have hcell : ∀ i, i < R → ∃ v, w.cell? ⟨T, i, none⟩ = some v ∧ v.oneCell' = true := fun i hi => by
    obtain ⟨_, _, a, c, k3, _, _⟩ := h4 i hi
    exact ⟨_, k3, rfl⟩
  have hfr : ∀ i, i < R → w.frozen? ⟨T, i, none⟩ = false := fun i hi => (h4 i hi).1
  obtain ⟨_, _, al, cl, cp, _, _⟩ := h4 (d + n) hp
  obtain ⟨cs, hcs, hcj, hone⟩ : ∃ cs : List Value, cs.length = n ∧ (∀ j, j < n → cs[j]? = w.cell? ⟨T, d + j, none⟩) ∧ ∀ v ∈ cs, v.oneCell' = true := by
    refine ⟨(List.range n).map fun j => (w.cell? ⟨T, d + j, none⟩).getD undef, by simp, fun j hj => ?_, fun v hv => ?_⟩
    · obtain ⟨v, hv, _⟩ := hcell (d + j) (by omega)
      simp [hj, hv]
    · simp only [List.mem_map, List.mem_range] at hv
      obtain ⟨j, hj, rfl⟩ := hv
      obtain ⟨v, hv, hv1⟩ := hcell (d + j) (by omega)
      rw [hv]; exact hv1
  have HS1 : Hid (∀ j v, cs[j]? = some v → w.cell? ⟨T, d + j, none⟩ = some v) := fun j v hv => by
    have hj : j < n := by rw [← hcs]; exact (List.getElem?_eq_some_iff.1 hv).1
    rw [← hcj j hj]; exact hv
  have HS2 : Hid (∀ j, j < n → (w.cell? ⟨T, d + 1 + j, none⟩).isSome = true) := fun j hj => by
    obtain ⟨v, hv, _⟩ := hcell (d + 1 + j) (by omega)
    rw [hv]; rfl
  have HS3 : Hid (∀ j, j < n → w.frozen? ⟨T, d + 1 + j, none⟩ = false) := fun j hj => hfr _ (by omega)
  have HS4 : Hid (∀ v ∈ cs, v.oneCell' = true) := hone
  have hc1 : ∀ i, (w.setCells T (d + 1) cs).cell? ⟨T, i, none⟩ = if d + 1 ≤ i ∧ i < d + 1 + cs.length then cs[i - (d + 1)]? else w.cell? ⟨T, i, none⟩ := setCells_cell cs (d + 1) w (fun j hj => HS2.out j (by omega))
  obtain ⟨vd, hvd, _⟩ := hcell d (by omega)
  have k1 : (w.setCells T (d + 1) cs).cell? ⟨T, d, none⟩ = some vd := by rw [hc1, if_neg (by omega)]; exact hvd
  have k2 : (w.setCells T (d + 1) cs).frozen? ⟨T, d, none⟩ = false := by rw [setCells_frozen]; exact hfr d (by omega)
  have HE : Hid (MW base top T R (fun _ => W) (El.raiseF d (d + n) f) ((w.setCells T (d + 1) cs).setCell ⟨T, d, none⟩ (.slice al W cl)) ∧ Keeps base top w ((w.setCells T (d + 1) cs).setCell ⟨T, d, none⟩ (.slice al W cl))) := by
    have hsz : ((w.setCells T (d + 1) cs).setCell ⟨T, d, none⟩ (.slice al W cl)).heap.size = w.heap.size := by
      simp [World.setCell, setCells_size]
    refine ⟨HM.out.raise (by omega) hp (by omega) (fun i hi => ?_) (fun i hi => by rw [World.frozen?_setCell, setCells_frozen]; exact hfr i hi) (fun b hb _ => by rw [setCell_other hb, setCells_heap hb]), ?_⟩
    · unfold El.was
      by_cases hi1 : i = d
      · subst hi1; rw [if_pos rfl, World.cell?_setCell_same _ _ _ k1]; exact cp.symm
      · rw [if_neg hi1, World.cell?_setCell_other _ _ _ _ (by simp <;> omega), hc1]
        by_cases hi2 : d < i ∧ i ≤ d + n
        · rw [if_pos hi2, if_pos (by omega), hcj _ (by omega)]; congr 2; omega
        · rw [if_neg hi2, if_neg (by omega)]
    · exact ⟨(below_setCells h1 cs (d + 1) (Below.refl _ _)).setCell h1 _, fun b hb _ => by rw [setCell_other (by omega), setCells_heap (by omega)]⟩
  have b0 : ((n : Int) + 1) - 1 = (n : Int) := by omega
  have b1 : (n : Int) < (n : Int) + 1 := by omega
  have b2 : (0 : Int) < (n : Int) + 1 := by omega
  clear hcell hfr hcj hone hc1 h4 HM hvd
  go_enter Try.func61, Try.ntmps61
  go_wp2_with (refine wpList_copyDown rfl (.tmp 10) (.tmp 11) rfl T d n _ _ _ cs rfl rfl ?hdp hcs HS1.out HS2.out HS3.out HS4.out ?_)
  all_goals first
    | (go_end0; exact ⟨rfl, HE.out.1, HE.out.2⟩)
    | omega
end Go.Proofs.Ytfbjpgcgdhhfnaa
