/- matrix: rows and lists of rows, those that a call makes, and how they are read. -/
import Derived.Test.YtfbjpgcgdhhfnaaMethods
import Derived.Test.YtfbjpgcgdhhfnaaRefs
import Derived.Deep.RegionHeld3
import Derived.Deep.QuietTactic
import Derived.Deep.Light
import Derived.Laws.BytesString
import Derived.Deep.RegionWith
import Derived.Laws.Strings
import Derived.WideShapes
import Derived.Deep.AppendLies
import Derived.KernelRfl
namespace Go.Proofs.Ytfbjpgcgdhhfnaa.Mx
open Go.RowKit
/-- v reads as the row l -/
def Row8 (w : World) (v : Value) (l : List Nat) : Prop := ∃ a cap, v = .slice a l.length cap ∧ l.length ≤ 9223372036854775807 ∧ (∀ x ∈ l, x < 256) ∧ (0 < l.length → ∃ g o, a = some ⟨g, o, none⟩ ∧ g < w.heap.size ∧ ∀ j, j < l.length → w.cell? ⟨g, o + j, none⟩ = some (.int .u8 ((l.getD j 0 : Nat) : Int)))
/-- v reads as the list of rows m -/
def Mat (w : World) (v : Value) (m : List (List Nat)) : Prop := ∃ a cap, v = .slice a m.length cap ∧ m.length ≤ 9223372036854775807 ∧ (0 < m.length → ∃ g o, a = some ⟨g, o, none⟩ ∧ g < w.heap.size ∧ ∀ j, j < m.length → ∃ r, w.cell? ⟨g, o + j, none⟩ = some r ∧ Row8 w r (m.getD j []))
theorem cell_below {w W : World} {N g i : Nat} {v : Option Value} (hb : Below N w W) (hg : g < N) (h : w.cell? ⟨g, i, none⟩ = v) : W.cell? ⟨g, i, none⟩ = v := by
  rw [← h]; simp only [World.cell?, hb.block g hg]
theorem Row8.below {w w' : World} {v : Value} {l : List Nat} (h : Row8 w v l) (hb : Below w.heap.size w w') : Row8 w' v l := by
  obtain ⟨a, cap, h1, h2, h3, h4⟩ := h
  refine ⟨a, cap, h1, h2, h3, fun hp => ?_⟩
  obtain ⟨g, o, e, hg, hc⟩ := h4 hp
  exact ⟨g, o, e, Nat.lt_of_lt_of_le hg hb.size, fun j hj => cell_below hb hg (hc j hj)⟩
theorem Mat.below {w w' : World} {v : Value} {m : List (List Nat)} (h : Mat w v m) (hb : Below w.heap.size w w') : Mat w' v m := by
  obtain ⟨a, cap, h1, h2, h4⟩ := h
  refine ⟨a, cap, h1, h2, fun hp => ?_⟩
  obtain ⟨g, o, e, hg, hc⟩ := h4 hp
  refine ⟨g, o, e, Nat.lt_of_lt_of_le hg hb.size, fun j hj => ?_⟩
  obtain ⟨r, c, hr⟩ := hc j hj
  exact ⟨r, cell_below hb hg c, hr.below hb⟩
theorem Mat.nil (w : World) : Mat w (.slice none 0 0) [] := ⟨none, 0, rfl, by simp, fun h => absurd h (by simp)⟩
theorem Row8.nil (w : World) : Row8 w (.slice none 0 0) [] := ⟨none, 0, rfl, by simp, by simp, fun h => absurd h (by simp)⟩
theorem Mat.some {w : World} {v : Value} {m : List (List Nat)} (h : Mat w v m) (hp : 0 < m.length) : ∃ g o cap, v = .slice (.some ⟨g, o, none⟩) m.length cap ∧ m.length ≤ 9223372036854775807 ∧ g < w.heap.size ∧ ∀ j, j < m.length → ∃ r, w.cell? ⟨g, o + j, none⟩ = .some r ∧ Row8 w r (m.getD j []) := by
  obtain ⟨a, cap, h1, h2, h4⟩ := h
  obtain ⟨g, o, rfl, hg, hc⟩ := h4 hp
  exact ⟨g, o, cap, h1, h2, hg, hc⟩
theorem Row8.some {w : World} {v : Value} {l : List Nat} (h : Row8 w v l) (hp : 0 < l.length) : ∃ g o cap, v = .slice (.some ⟨g, o, none⟩) l.length cap ∧ l.length ≤ 9223372036854775807 ∧ (∀ x ∈ l, x < 256) ∧ g < w.heap.size ∧ ∀ j, j < l.length → w.cell? ⟨g, o + j, none⟩ = .some (.int .u8 ((l.getD j 0 : Nat) : Int)) := by
  obtain ⟨a, cap, h1, h2, h3, h4⟩ := h
  obtain ⟨g, o, rfl, hg, hc⟩ := h4 hp
  exact ⟨g, o, cap, h1, h2, h3, hg, hc⟩
theorem Row8.zero {w : World} {v : Value} {l : List Nat} (h : Row8 w v l) (h0 : l.length = 0) : ∃ a cap, v = .slice a 0 cap := by
  obtain ⟨a, cap, h1, _⟩ := h
  exact ⟨a, cap, by rw [h1, h0]⟩
theorem Mat.zero {w : World} {v : Value} {l : List (List Nat)} (h : Mat w v l) (h0 : l.length = 0) : ∃ a cap, v = .slice a 0 cap := by
  obtain ⟨a, cap, h1, _⟩ := h
  exact ⟨a, cap, by rw [h1, h0]⟩
theorem getD_lt {l : List Nat} (h : ∀ x ∈ l, x < 256) (j : Nat) : l.getD j 0 < 256 := by
  rw [List.getD_eq_getElem?_getD]
  cases hj : l[j]? with
  | none => simp
  | some x => exact h x (List.mem_of_getElem? hj)
/-- may these rows be a matrix? -/
def mayM (m : List (List Nat)) : Bool := decide (1 ≤ m.length ∧ m.length ≤ 12 ∧ 1 ≤ (m.getD 0 []).length ∧ (m.getD 0 []).length ≤ 12 ∧ ∀ j, j < m.length → (m.getD j []).length = (m.getD 0 []).length)
theorem maySize_t (n : Int) (h1 : 1 ≤ n) (h2 : n ≤ 12) (w : World) : Calls Try.prog 51 #[.int .i64 n] w fun e w' => e = .returned (.bool true) ∧ w' = w := by
  have d1 : decide (1 ≤ n) = true := by simp; omega
  have d2 : decide (n ≤ 12) = true := by simp; omega
  go_enter Try.func51, Try.ntmps51
  go_wp2_with fail
  go_ret
  exact ⟨rfl, rfl⟩
theorem maySize_f (n : Int) (h : ¬ (1 ≤ n ∧ n ≤ 12)) (w : World) : Calls Try.prog 51 #[.int .i64 n] w fun e w' => e = .returned (.bool false) ∧ w' = w := by
  by_cases h1 : 1 ≤ n
  · have d1 : decide (1 ≤ n) = true := by simp; omega
    have d2 : decide (n ≤ 12) = false := by simp; omega
    go_enter Try.func51, Try.ntmps51
    go_wp2_with fail
    go_ret
    exact ⟨rfl, rfl⟩
  · have d1 : decide (1 ≤ n) = false := by simp; omega
    go_enter Try.func51, Try.ntmps51
    go_wp2_with fail
    go_ret
    exact ⟨rfl, rfl⟩
theorem may_any (v : Value) (m : List (List Nat)) (w : World) (h : Mat w v m) :
    Calls Try.prog 50 #[v] w fun e w' => e = .returned (.bool (mayM m)) ∧ w' = w := by
  by_cases h0 : m.length = 0
  · obtain ⟨a, cap, rfl⟩ := h.zero h0
    have hr : mayM m = false := by unfold mayM; simp; omega
    rw [hr]
    go_enter Try.func50, Try.ntmps50
    go_wp2_with fail
    refine (maySize_f _ (by omega) _).mono ?_
    rintro e w1 ⟨rfl, rfl⟩
    go_wp2_with fail
    go_ret
    exact ⟨rfl, rfl⟩
  · obtain ⟨g, o, cap, rfl, hml, hg, hrows⟩ := h.some (by omega)
    obtain ⟨r0, c0, hr0⟩ := hrows 0 (by omega)
    obtain ⟨a0, cap0, rfl, hl0, _, _⟩ := hr0
    simp only [Nat.add_zero] at c0
    have b0 : (0 : Int) < (m.length : Int) := by omega
    by_cases h1' : ¬ m.length ≤ 12
    · have hr : mayM m = false := by unfold mayM; simp; omega
      rw [hr]
      go_enter Try.func50, Try.ntmps50
      go_wp2_with fail
      refine (maySize_f _ (by omega) _).mono ?_
      rintro e w1 ⟨rfl, rfl⟩
      go_wp2_with fail
      go_ret
      exact ⟨rfl, rfl⟩
    have h1 : m.length ≤ 12 := by omega
    by_cases h2' : ¬ (1 ≤ (m.getD 0 []).length ∧ (m.getD 0 []).length ≤ 12)
    · have hr : mayM m = false := by unfold mayM; simp only [decide_eq_false_iff_not]; exact fun hh => h2' ⟨hh.2.2.1, hh.2.2.2.1⟩
      rw [hr]
      generalize (m.getD 0 []).length = n0 at *
      go_enter Try.func50, Try.ntmps50
      go_wp2_with fail
      refine (maySize_t _ (by omega) (by omega) _).mono ?_
      rintro e w1 ⟨rfl, rfl⟩
      go_wp2_with fail
      refine (maySize_f _ (by omega) _).mono ?_
      rintro e w1 ⟨rfl, rfl⟩
      go_wp2_with fail
      go_ret
      exact ⟨rfl, rfl⟩
    have h2 : 1 ≤ (m.getD 0 []).length ∧ (m.getD 0 []).length ≤ 12 := by omega
    have HM : Hid (mayM m = decide (∀ j, j < m.length → (m.getD j []).length = (m.getD 0 []).length)) := by
      unfold Hid mayM
      rw [decide_eq_decide]
      exact ⟨fun hh => hh.2.2.2.2, fun hh => ⟨by omega, h1, h2.1, h2.2, hh⟩⟩
    generalize hn0 : (m.getD 0 []).length = n0 at *
    generalize hn : m.length = n at *
    go_enter Try.func50, Try.ntmps50
    go_wp2_with fail
    refine (maySize_t _ (by omega) (by omega) _).mono ?_
    rintro e w1 ⟨rfl, rfl⟩
    go_wp2_with fail
    refine (maySize_t _ (by omega) (by omega) _).mono ?_
    rintro e w1 ⟨rfl, rfl⟩
    go_wp2_with fail
    go_loopw [19] (fun vi wr => wr = w1 ∧ ∃ k : Nat, k ≤ n ∧ vi = .int .i64 (k : Int) ∧ Hid (∀ j, j < k → (m.getD j []).length = n0)) (fun vi _ => n - (intOf vi).toNat)
    case atStart => exact ⟨rfl, 0, by omega, rfl, fun j hj => absurd hj (by omega)⟩
    case round =>
      obtain ⟨rfl, k, hk, rfl, hj⟩ := hrel
      by_cases hlt : k < n
      · obtain ⟨r, c, hr⟩ := hrows k hlt
        obtain ⟨a1, cap1, rfl, hl1, _, _⟩ := hr
        have d0 : (k : Int) < (n : Int) := by omega
        generalize hnk : (m.getD k []).length = nk at *
        by_cases he : nk = n0
        · have e0 : ((nk : Int) != (n0 : Int)) = false := by simp; omega
          go_wp2_with fail
          exact ⟨⟨by simp, k + 1, by omega, rfl, fun j hj' => by
            by_cases hjk : j < k
            · exact hj.out j hjk
            · obtain rfl : j = k := by omega
              rw [hnk, he]⟩, by simp [intOf]; omega⟩
        · have e0 : ((nk : Int) != (n0 : Int)) = true := by simp; omega
          have hr : mayM m = false := by rw [HM.out, decide_eq_false_iff_not]; exact fun hh => he (hnk ▸ hh k hlt)
          go_wp2_with fail
          go_ret
          exact ⟨by rw [hr]; rfl, rfl⟩
      · obtain rfl : k = n := by omega
        have hr : mayM m = true := by rw [HM.out, decide_eq_true_iff]; exact hj.out
        go_wp2_with fail
        go_ret
        exact ⟨by rw [hr]; rfl, rfl⟩
end Go.Proofs.Ytfbjpgcgdhhfnaa.Mx
namespace Go.Proofs.Ytfbjpgcgdhhfnaa.Mx
open Go.RowKit
theorem ext_getD {α : Type} {l1 l2 : List α} (d : α) (hl : l1.length = l2.length) (h : ∀ j, j < l1.length → l1.getD j d = l2.getD j d) : l1 = l2 := by
  apply List.ext_getElem hl
  intro j h1 h2
  have := h j h1
  simpa [List.getD_eq_getElem?_getD, List.getElem?_eq_getElem h1, List.getElem?_eq_getElem h2] using this
theorem below_drewN {B : Nat} {w w' : World} (h : Below B w w') (n : Nat) : Below B w (w'.drewN n) := ⟨h.os, h.tape, h.output, h.size, h.block⟩
end Go.Proofs.Ytfbjpgcgdhhfnaa.Mx
namespace Go.Proofs.Ytfbjpgcgdhhfnaa.Mx
open Go.RowKit
/-- the n rows that are told from T, o on lie from block base on, below top, apart from the list of them, and may be written -/
def WrAt (base top T o n : Nat) (w : World) : Prop := ∀ j, j < n → ∃ b k c, w.cell? ⟨T, o + j, none⟩ = some (.slice b k c) ∧ k ≤ 9223372036854775807 ∧ (0 < k → ∃ g p, b = some ⟨g, p, none⟩ ∧ base ≤ g ∧ g < top ∧ g ≠ T ∧ ∀ i, i < k → (∃ x : Nat, x < 256 ∧ w.cell? ⟨g, p + i, none⟩ = some (.int .u8 (x : Int))) ∧ w.frozen? ⟨g, p + i, none⟩ = false)
def Wr (base top : Nat) (w : World) (v : Value) : Prop := ∃ a n cap, v = .slice a n cap ∧ n ≤ 9223372036854775807 ∧ (0 < n → ∃ T o, a = some ⟨T, o, none⟩ ∧ base ≤ T ∧ T < top ∧ WrAt base top T o n w)
/-- the same, wherever the list of the rows lies -/
def WrG (base top : Nat) (w : World) (v : Value) : Prop := ∃ a n cap, v = .slice a n cap ∧ n ≤ 9223372036854775807 ∧ (0 < n → ∃ T o, a = some ⟨T, o, none⟩ ∧ WrAt base top T o n w)
theorem Wr.g {base top : Nat} {w : World} {v : Value} (h : Wr base top w v) : WrG base top w v := by
  obtain ⟨a, n, cap, h1, h2, h3⟩ := h
  refine ⟨a, n, cap, h1, h2, fun hp => ?_⟩
  obtain ⟨T, o, e, _, _, h4⟩ := h3 hp
  exact ⟨T, o, e, h4⟩
/-- nothing below base is changed, nothing from top on -/
def Keeps (base top : Nat) (w w' : World) : Prop := Below base w w' ∧ ∀ b, top ≤ b → w'.heap[b]? = w.heap[b]?
theorem Wr.nil (base top : Nat) (w : World) : Wr base top w (.slice none 0 0) := ⟨none, 0, 0, rfl, by omega, fun h => absurd h (by omega)⟩
theorem WrAt.same {base top T o n : Nat} {w w' : World} (h0 : base ≤ T) (h1 : T < top) (h : WrAt base top T o n w) (hk : ∀ b, base ≤ b → b < top → w'.heap[b]? = w.heap[b]?) : WrAt base top T o n w' := by
  have hc : ∀ b i, base ≤ b → b < top → w'.cell? ⟨b, i, none⟩ = w.cell? ⟨b, i, none⟩ ∧ w'.frozen? ⟨b, i, none⟩ = w.frozen? ⟨b, i, none⟩ := fun b i p q => by
    simp only [World.cell?, World.frozen?, hk b p q, and_self]
  intro j hj
  obtain ⟨b, k, c, e1, e2, e3⟩ := h j hj
  refine ⟨b, k, c, by rw [(hc T _ h0 h1).1]; exact e1, e2, fun hp => ?_⟩
  obtain ⟨g, p, r1, r2, r3, r4, r5⟩ := e3 hp
  refine ⟨g, p, r1, r2, r3, r4, fun i hi => ?_⟩
  rw [(hc g _ r2 r3).1, (hc g _ r2 r3).2]
  exact r5 i hi
theorem Wr.same {base top : Nat} {w w' : World} {v : Value} (h : Wr base top w v) (hk : ∀ b, base ≤ b → b < top → w'.heap[b]? = w.heap[b]?) : Wr base top w' v := by
  obtain ⟨a, n, cap, h1, h2, h3⟩ := h
  refine ⟨a, n, cap, h1, h2, fun hp => ?_⟩
  obtain ⟨T, o, e, k0, k1, h4⟩ := h3 hp
  exact ⟨T, o, e, k0, k1, WrAt.same k0 k1 h4 hk⟩
theorem byte_set {w : World} {a b : Addr} {x : Nat} (hx : x < 256) (h : ∃ y : Nat, y < 256 ∧ w.cell? a = some (.int .u8 (y : Int))) : ∃ y : Nat, y < 256 ∧ (w.setCell b (.int .u8 (x : Int))).cell? a = some (.int .u8 (y : Int)) := by
  obtain ⟨y, hy, h⟩ := h
  by_cases hab : b = a
  · subst hab; exact ⟨x, hx, World.cell?_setCell_same _ _ _ h⟩
  · exact ⟨y, hy, by rw [World.cell?_setCell_other _ _ _ _ hab]; exact h⟩
theorem WrAt.set {base top T o n : Nat} {w : World} (h : WrAt base top T o n w) {g i x : Nat} (hg : g ≠ T) (hx : x < 256) : WrAt base top T o n (w.setCell ⟨g, i, none⟩ (.int .u8 (x : Int))) := by
  intro j hj
  obtain ⟨b, k, c, h1, h2, h3⟩ := h j hj
  refine ⟨b, k, c, ?_, h2, fun hk => ?_⟩
  · rw [World.cell?_setCell_far _ _ _ _ hg]; exact h1
  · obtain ⟨g', p, rfl, hb, ht, hn, hc⟩ := h3 hk
    exact ⟨g', p, rfl, hb, ht, hn, fun i hi => ⟨byte_set hx (hc i hi).1, by rw [World.frozen?_setCell]; exact (hc i hi).2⟩⟩
theorem WrAt.drewN {base top T o n : Nat} {w : World} (h : WrAt base top T o n w) (k : Nat) : WrAt base top T o n (w.drewN k) := h
theorem WrAt.drew {base top T o n : Nat} {w : World} (h : WrAt base top T o n w) : WrAt base top T o n w.drew := h
end Go.Proofs.Ytfbjpgcgdhhfnaa.Mx
namespace Go.Proofs.Ytfbjpgcgdhhfnaa.Mx
open Go.RowKit
def ofBs (l : List Nat) : ByteArray := ⟨(l.map fun x => x.toUInt8).toArray⟩
theorem fold_push (l : List Nat) (acc : ByteArray) : (l.map fun x : Nat => (x : Int)).foldl (fun r n => r.push (UInt8.ofNat n.toNat)) acc = ⟨acc.data ++ (l.map fun x => x.toUInt8).toArray⟩ := by
  induction l generalizing acc with
  | nil => simp
  | cons x l ih =>
    simp only [List.map_cons, List.foldl_cons, ih, Int.toNat_natCast]
    have : (acc.push (UInt8.ofNat x)).data = acc.data.push (UInt8.ofNat x) := rfl
    rw [this]
    congr 1
    apply Array.toList_inj.1
    simp
theorem toNat8 {x : Nat} (h : x < 256) : x.toUInt8.toNat = x := by
  show x % 256 = x
  omega
theorem ofBs_inj {a b : List Nat} (ha : ∀ x ∈ a, x < 256) (hb : ∀ x ∈ b, x < 256) (h : ofBs a = ofBs b) : a = b := by
  have h1 : (a.map fun x => x.toUInt8) = (b.map fun x => x.toUInt8) := by
    have := congrArg (fun s : ByteArray => s.data.toList) h
    simpa [ofBs] using this
  have h2 := congrArg (List.map UInt8.toNat) h1
  simp only [List.map_map] at h2
  have e : ∀ l : List Nat, (∀ x ∈ l, x < 256) → l.map (UInt8.toNat ∘ fun x => x.toUInt8) = l := fun l hl => by
    conv => rhs; rw [← List.map_id l]
    apply List.map_congr_left
    intro x hx
    exact toNat8 (hl x hx)
  rwa [e a ha, e b hb] at h2
theorem str_ne {a b : List Nat} (ha : ∀ x ∈ a, x < 256) (hb : ∀ x ∈ b, x < 256) (h : a ≠ b) : ((ofBs a).toList == (ofBs b).toList) = false := by
  rw [beq_eq_false_iff_ne]
  intro e
  rw [ByteArray.toList_eq, ByteArray.toList_eq] at e
  exact h (ofBs_inj ha hb (Go.WideShapes.bytes_inj e))
theorem str_eq (a : ByteArray) : (a.toList == a.toList) = true := by simp
theorem conv_row {w : World} {v : Value} {l : List Nat} (h : Row8 w v l) : (convert 31 9 v).run Try.prog w = .ok (.string (ofBs l)) w := by
  obtain ⟨a, cap, rfl, hl, hx, hc⟩ := h
  by_cases hp : 0 < l.length
  · obtain ⟨g, o, rfl, hg, hd⟩ := hc hp
    have hld : (loadCells ⟨g, o, none⟩ l.length).run Try.prog w = .ok ((l.map fun x : Nat => (x : Int)).map (Value.int .u8)).toArray w := by
      have h2 := run_loadCells_list (P := Try.prog) w ⟨g, o, none⟩ (U8s l).toList (fun j v hv => by
        have hj : j < l.length := by have := (List.getElem?_eq_some_iff.1 hv).1; simpa [U8s] using this
        rw [Addr.add_mid, hd j hj, ← hv]
        simp [U8s, List.getD_eq_getElem?_getD, List.getElem?_eq_getElem hj])
      rw [Array.length_toList, U8s_size] at h2
      rw [h2]
      simp [U8s]
    rw [run_convert_bytes_string w 31 9 5 _ _ _ Try.underlying31 Try.underlying5 Try.underlying9, run_bytesToString w _ _ _ _ hld, fold_push]
    simp [ofBs]
  · have h0 : l = [] := List.eq_nil_of_length_eq_zero (by omega)
    subst h0
    cases a with
    | none => exact run_convert_bytes_string w 31 9 5 _ _ _ Try.underlying31 Try.underlying5 Try.underlying9
    | some a =>
      have hld : (loadCells a ([] : List Nat).length).run Try.prog w = .ok (([] : List Int).map (Value.int .u8)).toArray w := run_loadCells_list (P := Try.prog) w a [] (by simp)
      rw [run_convert_bytes_string w 31 9 5 _ _ _ Try.underlying31 Try.underlying5 Try.underlying9, run_bytesToString w _ _ _ _ hld]
      rfl
end Go.Proofs.Ytfbjpgcgdhhfnaa.Mx
namespace Go.Proofs.Ytfbjpgcgdhhfnaa.Mx
open Go.RowKit
def tops (n : Nat) (B : Nat → Nat) (rs : List (List Nat)) : Array Value :=
  ((List.range n).map fun i => if i < rs.length then Value.slice (some ⟨B i, 0, none⟩) (rs.getD i []).length (rs.getD i []).length else .slice none 0 0).toArray
theorem tops_get (n : Nat) (B : Nat → Nat) (rs : List (List Nat)) (i : Nat) (hi : i < n) : (tops n B rs)[i]? = some (if i < rs.length then Value.slice (some ⟨B i, 0, none⟩) (rs.getD i []).length (rs.getD i []).length else .slice none 0 0) := by
  simp [tops, hi]
theorem tops_congr {n : Nat} {B B' : Nat → Nat} {rs rs' : List (List Nat)} (hl : rs.length = rs'.length) (h : ∀ i, i < rs.length → B i = B' i ∧ (rs.getD i []).length = (rs'.getD i []).length) : tops n B rs = tops n B' rs' := by
  unfold tops
  congr 1
  apply List.map_congr_left
  intro i _
  by_cases hi : i < rs.length
  · rw [if_pos hi, if_pos (by omega), (h i hi).1, (h i hi).2]
  · rw [if_neg hi, if_neg (by omega)]
/-- block T holds a list of n rows, of which the first are rs, each in a block of its own, all from base on -/
def RowsAt (base T n : Nat) (w : World) (rs : List (List Nat)) : Prop := rs.length ≤ n ∧ base ≤ T ∧ ∃ B : Nat → Nat, Has w T (tops n B rs) 31 ∧ ∀ i, i < rs.length → base ≤ B i ∧ B i ≠ T ∧ (∀ j, j < rs.length → j ≠ i → B j ≠ B i) ∧ Has w (B i) (U8s (rs.getD i [])) 5 ∧ (∀ x ∈ rs.getD i [], x < 256)
theorem RowsAt.below {base T n : Nat} {w w' : World} {rs : List (List Nat)} (h : RowsAt base T n w rs) (hb : Below w.heap.size w w') : RowsAt base T n w' rs := by
  obtain ⟨h1, h2, B, h3, h4⟩ := h
  refine ⟨h1, h2, B, h3.below hb h3.lt, fun i hi => ?_⟩
  obtain ⟨a, b, c, d, e⟩ := h4 i hi
  exact ⟨a, b, c, d.below hb d.lt, e⟩
theorem RowsAt.start {w : World} {base T n : Nat} (hT : T = w.heap.size) (hb : base ≤ T) : RowsAt base T n (w.alloc (.cells (tops n (fun _ => 0) []) 31)) [] :=
  ⟨Nat.zero_le _, hb, fun _ => 0, Has.new w T _ 31 hT, fun i hi => absurd hi (by simp)⟩
theorem tops_push (n : Nat) (B : Nat → Nat) (rs : List (List Nat)) (g : Nat) (r : List Nat) (hn : rs.length < n) :
    (tops n B rs).setIfInBounds rs.length (.slice (some ⟨g, 0, none⟩) r.length r.length) = tops n (fun i => if i = rs.length then g else B i) (rs ++ [r]) := by
  apply Array.ext_getElem?
  intro i
  rw [Array.getElem?_setIfInBounds]
  by_cases hin : i < n
  · rw [tops_get n _ _ i hin, tops_get n _ _ i hin]
    by_cases hi : rs.length = i
    · subst hi
      rw [if_pos rfl, if_pos (by simp [tops]; omega), if_pos (by simp), if_pos rfl]
      simp
    · rw [if_neg hi]
      by_cases hl : i < rs.length
      · rw [if_pos hl, if_pos (by simp; omega), if_neg (by omega)]
        have e : (rs ++ [r]).getD i [] = rs.getD i [] := by
          rw [List.getD_eq_getElem?_getD, List.getElem?_append_left hl, ← List.getD_eq_getElem?_getD]
        rw [e]
      · rw [if_neg hl, if_neg (by simp; omega)]
  · have e : ∀ (B : Nat → Nat) (rs : List (List Nat)), (tops n B rs)[i]? = none := fun B rs => by
      rw [Array.getElem?_eq_none]; simp [tops]; omega
    rw [e, e, if_neg (by omega)]
theorem getD_app_old {α : Type} (l : List α) (x d : α) (i : Nat) (h : i < l.length) : (l ++ [x]).getD i d = l.getD i d := by
  rw [List.getD_eq_getElem?_getD, List.getElem?_append_left h, ← List.getD_eq_getElem?_getD]
theorem getD_app_new {α : Type} (l : List α) (x d : α) (i : Nat) (h : i = l.length) : (l ++ [x]).getD i d = x := by
  subst h; simp
/-- one more row, which a call has made meanwhile -/
theorem RowsAt.push {base T n : Nat} {w0 w1 : World} {rs : List (List Nat)} (h : RowsAt base T n w0 rs) (hb : Below w0.heap.size w0 w1) {g : Nat} {r : List Nat} (hg : w0.heap.size ≤ g) (hbg : base ≤ g) (hh : Has w1 g (U8s r) 5) (hr : ∀ x ∈ r, x < 256) (hn : rs.length < n) :
    RowsAt base T n (w1.setCell ⟨T, rs.length, none⟩ (.slice (some ⟨g, 0, none⟩) r.length r.length)) (rs ++ [r]) := by
  obtain ⟨h1, h2, B, h3, h4⟩ := h
  have hT := h3.lt
  refine ⟨by simp; omega, h2, fun i => if i = rs.length then g else B i, ?_, fun i hi => ?_⟩
  · rw [← tops_push n B rs g r hn]
    exact (h3.below hb h3.lt).set _ _
  · simp only [List.length_append, List.length_cons, List.length_nil] at hi
    have hBi : ∀ j, j < rs.length → B j < w0.heap.size := fun j hj => (h4 j hj).2.2.2.1.lt
    by_cases he : i = rs.length
    · simp only [if_pos he]
      refine ⟨hbg, by omega, fun j hj hji => ?_, ?_, ?_⟩
      · simp only [List.length_append, List.length_cons, List.length_nil] at hj
        rw [if_neg (by omega)]
        have := hBi j (by omega); omega
      · rw [getD_app_new _ _ _ _ he]; exact hh.other _ _ (by show g ≠ T; omega)
      · rw [getD_app_new _ _ _ _ he]; exact hr
    · simp only [if_neg he]
      have hi' : i < rs.length := by omega
      obtain ⟨a, b, c, d, e⟩ := h4 i hi'
      refine ⟨a, b, fun j hj hji => ?_, ?_, ?_⟩
      · simp only [List.length_append, List.length_cons, List.length_nil] at hj
        by_cases hj' : j = rs.length
        · rw [if_pos hj']; have := hBi i hi'; omega
        · rw [if_neg hj']; exact c j (by omega) hji
      · rw [getD_app_old _ _ _ _ hi']; exact (d.below hb d.lt).other _ _ b
      · rw [getD_app_old _ _ _ _ hi']; exact e
theorem getD_set_same {α : Type} (l : List α) (x d : α) (i : Nat) (h : i < l.length) : (l.set i x).getD i d = x := by
  simp [List.getD_eq_getElem?_getD, h]
theorem getD_set_other {α : Type} (l : List α) (x d : α) (i j : Nat) (h : j ≠ i) : (l.set i x).getD j d = l.getD j d := by
  rw [List.getD_eq_getElem?_getD, List.getElem?_set_ne (by omega), ← List.getD_eq_getElem?_getD]
/-- a row of it, and what becomes of it when it is written -/
theorem RowsAt.row {base T n : Nat} {w : World} {rs : List (List Nat)} (h : RowsAt base T n w rs) (i : Nat) (hi : i < rs.length) :
    ∃ g, w.cell? ⟨T, i, none⟩ = some (.slice (some ⟨g, 0, none⟩) (rs.getD i []).length (rs.getD i []).length) ∧ base ≤ g ∧ g ≠ T ∧ Has w g (U8s (rs.getD i [])) 5 ∧ (∀ x ∈ rs.getD i [], x < 256) ∧
      (∀ W l, Has W g (U8s l) 5 → l.length = (rs.getD i []).length → (∀ x ∈ l, x < 256) → (∀ b, b ≠ g → W.heap[b]? = w.heap[b]?) → RowsAt base T n W (rs.set i l)) := by
  obtain ⟨h1, h2, B, h3, h4⟩ := h
  obtain ⟨a, b, c, d, e⟩ := h4 i hi
  refine ⟨B i, ?_, a, b, d, e, fun W l hW hl hx hk => ?_⟩
  · rw [h3.cell, tops_get _ _ _ _ (by omega), if_pos hi]
  · refine ⟨by simpa using h1, h2, B, ?_, fun j hj => ?_⟩
    · have e1 : tops n B (rs.set i l) = tops n B rs := tops_congr (by simp) fun j hj => by
        refine ⟨rfl, ?_⟩
        by_cases hji : j = i
        · subst hji; rw [getD_set_same _ _ _ _ hi, hl]
        · rw [getD_set_other _ _ _ _ _ hji]
      rw [e1]
      unfold Has at h3 ⊢
      rw [hk T (Ne.symm b)]; exact h3
    · simp only [List.length_set] at hj
      obtain ⟨a', b', c', d', e'⟩ := h4 j hj
      refine ⟨a', b', fun k hk' hkj => c' k (by simpa using hk') hkj, ?_, ?_⟩
      · by_cases hji : j = i
        · subst hji; rw [getD_set_same _ _ _ _ hj]; exact hW
        · rw [getD_set_other _ _ _ _ _ hji]
          unfold Has at d' ⊢
          rw [hk (B j) (c j hj hji)]; exact d'
      · by_cases hji : j = i
        · subst hji; rw [getD_set_same _ _ _ _ hj]; exact hx
        · rw [getD_set_other _ _ _ _ _ hji]; exact e'
theorem set_lt {l : List Nat} (h : ∀ x ∈ l, x < 256) (j x : Nat) (hx : x < 256) : ∀ y ∈ l.set j x, y < 256 := fun y hy => by
  rcases List.mem_or_eq_of_mem_set hy with hy | rfl
  · exact h y hy
  · exact hx
/-- one number of a row is written -/
theorem RowsAt.write {base T n : Nat} {w : World} {rs : List (List Nat)} (h : RowsAt base T n w rs) (i : Nat) (hi : i < rs.length) :
    ∃ g, w.cell? ⟨T, i, none⟩ = some (.slice (some ⟨g, 0, none⟩) (rs.getD i []).length (rs.getD i []).length) ∧ base ≤ g ∧ g ≠ T ∧
      (∀ j, j < (rs.getD i []).length → w.cell? ⟨g, j, none⟩ = some (.int .u8 (((rs.getD i []).getD j 0 : Nat) : Int)) ∧ w.frozen? ⟨g, j, none⟩ = false) ∧
      ∀ j (x : Nat), x < 256 → RowsAt base T n (w.setCell ⟨g, j, none⟩ (.int .u8 (x : Int))) (rs.set i ((rs.getD i []).set j x)) := by
  obtain ⟨g, h1, h2, h3, h4, h5, h6⟩ := h.row i hi
  refine ⟨g, h1, h2, h3, fun j hj => ⟨by rw [h4.cell, U8s_get _ _ hj], h4.frozen j⟩, fun j x hx => h6 _ _ ?_ (by simp) (set_lt h5 j x hx) fun b hb => Below.heap_setCell _ _ _ _ hb⟩
  rw [← U8s_set]; exact h4.set _ _
theorem RowsAt.mat {base T : Nat} {w : World} {rs : List (List Nat)} (h : RowsAt base T rs.length w rs) (hl : rs.length ≤ 1000000) (hc : ∀ i, i < rs.length → (rs.getD i []).length ≤ 1000000) : Mat w (.slice (some ⟨T, 0, none⟩) rs.length rs.length) rs := by
  have hT : T < w.heap.size := by obtain ⟨_, _, B, h3, _⟩ := h; exact h3.lt
  refine ⟨_, _, rfl, by omega, fun hp => ⟨T, 0, rfl, hT, fun j hj => ?_⟩⟩
  obtain ⟨g, h1, h2, h3, h4, h5, _⟩ := h.row j hj
  refine ⟨_, by rw [Nat.zero_add]; exact h1, _, _, rfl, by have := hc j hj; omega, h5, fun hp => ⟨g, 0, rfl, h4.lt, fun i hi => ?_⟩⟩
  rw [Nat.zero_add, h4.cell, U8s_get _ _ hi]
theorem RowsAt.wr {base T : Nat} {w : World} {rs : List (List Nat)} (h : RowsAt base T rs.length w rs) (hl : rs.length ≤ 1000000) (hc : ∀ i, i < rs.length → (rs.getD i []).length ≤ 1000000) : Wr base w.heap.size w (.slice (some ⟨T, 0, none⟩) rs.length rs.length) := by
  have hT : base ≤ T ∧ T < w.heap.size := by obtain ⟨_, h2, B, h3, _⟩ := h; exact ⟨h2, h3.lt⟩
  refine ⟨_, _, _, rfl, by omega, fun hp => ⟨T, 0, rfl, hT.1, hT.2, fun j hj => ?_⟩⟩
  obtain ⟨g, h1, h2, h3, h4, h5, _⟩ := h.row j hj
  refine ⟨_, _, _, by rw [Nat.zero_add]; exact h1, by have := hc j hj; omega, fun hp => ⟨g, 0, rfl, h2, h4.lt, h3, fun i hi => ⟨⟨(rs.getD j []).getD i 0, getD_lt h5 i, ?_⟩, h4.frozen _⟩⟩⟩
  rw [Nat.zero_add, h4.cell, U8s_get _ _ hi]
end Go.Proofs.Ytfbjpgcgdhhfnaa.Mx
namespace Go.Proofs.Ytfbjpgcgdhhfnaa.Mx
open Go.RowKit
theorem infoRow : (Try.prog.info? 31).map (fun i => (i.zero, i.size, i.bytes)) = some (some (.slice none 0 0), 1, 24) := by kernel_rfl
theorem infoU8 : (Try.prog.info? 5).map (fun i => (i.zero, i.size, i.bytes)) = some (some (.int .u8 0), 1, 1) := by kernel_rfl
theorem makes_u8 (n : Nat) (hn : n ≤ 1000000) (w : World) : (Instr.makeSlice 31 (.int .i64 (n : Int)) (.int .i64 (n : Int))).run Try.prog w = .ok (.slice (some ⟨w.heap.size, 0, none⟩) n n) (w.alloc (.cells (U8s (List.replicate n 0)) 5)) := by
  have hinfo := infoU8
  cases hi : Try.prog.info? 5 with
  | none => rw [hi] at hinfo; simp at hinfo
  | some i =>
    rw [hi] at hinfo
    simp only [Option.map_some, Option.some.injEq, Prod.mk.injEq] at hinfo
    obtain ⟨h1, h2, h3⟩ := hinfo
    rw [run_make w 31 5 i (.int .u8 0) Try.underlying31 hi h1 .i64 .i64 (n : Int) (n : Int) (by omega) (Int.le_refl _) (by rw [h3]; omega) (by omega)]
    have e : madeCells (Value.int .u8 0).cells (n * 1) = U8s (List.replicate n 0) := by
      apply Array.toList_inj.1
      have hz : (Value.int .u8 0).cells = #[.int .u8 0] := rfl
      rw [hz, Nat.mul_one]
      apply List.ext_getElem
      · simp [madeCells, U8s]
      · intro k h1 h2
        simp [madeCells, U8s, Nat.mod_one]
    rw [h2, Int.toNat_natCast, e]
theorem makes_rows (n : Nat) (hn : n ≤ 1000000) (w : World) : (Instr.makeSlice 46 (.int .i64 (n : Int)) (.int .i64 (n : Int))).run Try.prog w = .ok (.slice (some ⟨w.heap.size, 0, none⟩) n n) (w.alloc (.cells (tops n (fun _ => 0) []) 31)) := by
  have hinfo := infoRow
  cases hi : Try.prog.info? 31 with
  | none => rw [hi] at hinfo; simp at hinfo
  | some i =>
    rw [hi] at hinfo
    simp only [Option.map_some, Option.some.injEq, Prod.mk.injEq] at hinfo
    obtain ⟨h1, h2, h3⟩ := hinfo
    rw [run_make w 46 31 i (.slice none 0 0) Try.underlying46 hi h1 .i64 .i64 (n : Int) (n : Int) (by omega) (Int.le_refl _) (by rw [h3]; omega) (by omega)]
    have e : madeCells (Value.slice none 0 0).cells (n * 1) = tops n (fun _ => 0) [] := by
      apply Array.toList_inj.1
      have hz : (Value.slice none 0 0).cells = #[.slice none 0 0] := rfl
      rw [hz, Nat.mul_one]
      apply List.ext_getElem
      · simp [madeCells, tops]
      · intro k h1 h2
        simp [madeCells, tops, Nat.mod_one]
    rw [h2, Int.toNat_natCast, e]
theorem RowsAt.top {base T n : Nat} {w : World} {rs : List (List Nat)} (h : RowsAt base T n w rs) (k : Nat) (hk : k < n) : T < w.heap.size ∧ (∃ v, w.cell? ⟨T, k, none⟩ = some v) ∧ w.frozen? ⟨T, k, none⟩ = false := by
  obtain ⟨h1, h2, B, h3, h4⟩ := h
  exact ⟨h3.lt, ⟨_, by rw [h3.cell, tops_get _ _ _ _ hk]⟩, h3.frozen k⟩
set_option maxRecDepth 20000 in
theorem noughts_any (r c : Nat) (hr : r ≤ 1000000) (hc : c ≤ 1000000) (w : World) :
    Calls Try.prog 31 #[.int .i64 (r : Int), .int .i64 (c : Int)] w fun e w' => e = .returned (.slice (some ⟨w.heap.size, 0, none⟩) r r) ∧ RowsAt w.heap.size w.heap.size r w' (List.replicate r (List.replicate c 0)) ∧ Below w.heap.size w w' := by
  have hmk := makes_rows r hr
  go_enter Try.func31, Try.ntmps31
  go_wp2_with fail
  go_loopw [11] (fun vi wr => ∃ k : Nat, k ≤ r ∧ vi = .int .i64 (k : Int) ∧ RowsAt w.heap.size w.heap.size r wr (List.replicate k (List.replicate c 0)) ∧ Below w.heap.size w wr) (fun vi _ => r - (intOf vi).toNat)
  case atStart => exact ⟨0, by omega, rfl, RowsAt.start rfl (Nat.le_refl _), (Below.refl _ _).alloc (Nat.le_refl _) _⟩
  case round =>
    obtain ⟨k, hk, rfl, h1, hb⟩ := hrel
    clear hmk
    have hmk := makes_u8 c hc
    by_cases hlt : k < r
    · obtain ⟨q1, ⟨x, q2⟩, q3⟩ := h1.top k hlt
      have bA : Below wr.heap.size wr (wr.alloc (.cells (U8s (List.replicate c 0)) 5)) := (Below.refl _ _).alloc (Nat.le_refl _) _
      have c1 : (wr.alloc (.cells (U8s (List.replicate c 0)) 5)).cell? ⟨w.heap.size, k, none⟩ = some x := cell_below bA q1 q2
      have f1 : (wr.alloc (.cells (U8s (List.replicate c 0)) 5)).frozen? ⟨w.heap.size, k, none⟩ = false := by
        rw [← q3]; simp only [World.frozen?, bA.block _ q1]
      have HP : Hid (RowsAt w.heap.size w.heap.size r ((wr.alloc (.cells (U8s (List.replicate c 0)) 5)).setCell ⟨w.heap.size, k, none⟩ (.slice (some ⟨wr.heap.size, 0, none⟩) c c)) (List.replicate (k + 1) (List.replicate c 0))) := by
        have := h1.push bA (Nat.le_refl _) hb.size (Has.new wr _ (U8s (List.replicate c 0)) 5 rfl) (fun x hx => by rw [List.eq_of_mem_replicate hx]; decide) (by simp; omega)
        simp only [List.length_replicate] at this
        rw [List.replicate_succ']; exact this
      have hfin : Below w.heap.size w ((wr.alloc (.cells (U8s (List.replicate c 0)) 5)).setCell ⟨w.heap.size, k, none⟩ (.slice (some ⟨wr.heap.size, 0, none⟩) c c)) := (hb.alloc hb.size _).setCell (Nat.le_refl _) _
      rw [World.setCell_alloc_past _ _ _ _ q1] at HP hfin
      clear h1 q2 q3
      have d0 : (k : Int) < (r : Int) := by omega
      go_wp2_with fail
      exact ⟨⟨k + 1, by omega, rfl, HP.out, hfin⟩, by simp [intOf]; omega⟩
    · obtain rfl : k = r := by omega
      go_wp2_with fail
      go_ret
      exact ⟨rfl, h1, hb⟩
end Go.Proofs.Ytfbjpgcgdhhfnaa.Mx
namespace Go.Proofs.Ytfbjpgcgdhhfnaa.Mx
open Go.RowKit
/-- an element type of one cell, and the list type of it -/
structure Elem (t e : TypeId) (z : Value) (bytes : Nat) : Prop where
  ht : Try.prog.underlying t = some (.slice e)
  hi : (Try.prog.info? e).map (fun i => (i.zero, i.size, i.bytes)) = some (some z, 1, bytes)
  hz : z.cells.size = 1
  hb : bytes ≤ 24
theorem el5 : Elem 31 5 (.int .u8 0) 1 := ⟨Try.underlying31, by kernel_rfl, rfl, by decide⟩
theorem el31 : Elem 46 31 (.slice none 0 0) 24 := ⟨Try.underlying46, by kernel_rfl, rfl, by decide⟩
theorem Elem.info {t e : TypeId} {z : Value} {bytes : Nat} (E : Elem t e z bytes) : ∃ i, Try.prog.info? e = some i ∧ i.zero = some z ∧ i.size = 1 ∧ i.bytes = bytes := by
  have h := E.hi
  cases hq : Try.prog.info? e with
  | none => rw [hq] at h; simp at h
  | some i =>
    rw [hq] at h
    simp only [Option.map_some, Option.some.injEq, Prod.mk.injEq] at h
    exact ⟨i, rfl, h⟩
/-- the list v, made by the call itself (from block base on), holds these cells -/
def Owns (e : TypeId) (base : Nat) (v : Value) (xs : List Value) (w : World) : Prop := w.ownsRow base e 1 v xs.length xs
theorem Owns.nil (e : TypeId) (base : Nat) (w : World) : Owns e base (.slice none 0 0) [] w := World.ownsRow_nil w base e 1
theorem Owns.alloc {e : TypeId} {base : Nat} {v : Value} {xs : List Value} {w : World} (h : Owns e base v xs w) (o : Obj) : Owns e base v xs (w.alloc o) := World.ownsRow.alloc h o
theorem Owns.base_le {e : TypeId} {base : Nat} {v : Value} {xs : List Value} {w : World} (h : Owns e base v xs w) : ∀ k, v.ownBlock = some k → base ≤ k ∧ k < w.heap.size := World.ownsRow.lt h
theorem Owns.below {e : TypeId} {base : Nat} {v : Value} {xs : List Value} {w w' : World} (h : Owns e base v xs w) (hb : Below w.heap.size w w') : Owns e base v xs w' := by
  obtain ⟨h1, h2⟩ := h
  refine ⟨h1, ?_⟩
  rcases h2 with h2 | ⟨g, cap, cur, hv, hg, hh, h3⟩
  · exact .inl h2
  · exact .inr ⟨g, cap, cur, hv, hg, by rw [hb.block g (Array.getElem?_eq_some_iff.1 hh).1]; exact hh, h3⟩
theorem Owns.draws {e : TypeId} {base : Nat} {v : Value} {xs : List Value} {w : World} (h : Owns e base v xs w) (n : Nat) : Owns e base v xs (w.drewN n) := h
theorem Owns.form {e : TypeId} {base : Nat} {v : Value} {xs : List Value} {w : World} (h : Owns e base v xs w) (hp : 0 < xs.length) : ∃ g cap, v = .slice (some ⟨g, 0, none⟩) xs.length cap ∧ xs.length ≤ cap ∧ cap ≤ maxLen ∧ base ≤ g ∧ g < w.heap.size ∧ ∀ j, w.cell? ⟨g, j, none⟩ = none ∨ (j < xs.length → w.cell? ⟨g, j, none⟩ = xs[j]?) := by
  obtain ⟨h1, h2⟩ := h
  rcases h2 with ⟨_, h0⟩ | ⟨g, cap, cur, hv, hg, hh, h3, h4, h5, h6⟩
  · omega
  · refine ⟨g, cap, hv, h3, h4, hg, (Array.getElem?_eq_some_iff.1 hh).1, fun j => .inr fun hj => ?_⟩
    have hc : w.cell? ⟨g, j, none⟩ = cur[j]? := by simp [World.cell?, hh]
    rw [hc, ← h6, List.getElem?_take, if_pos (by omega)]; simp
theorem Owns.cell {e : TypeId} {base g cap n : Nat} {xs : List Value} {w : World} (h : Owns e base (.slice (some ⟨g, 0, none⟩) n cap) xs w) (j : Nat) (hj : j < xs.length) : w.cell? ⟨g, j, none⟩ = xs[j]? := by
  obtain ⟨h1, h2⟩ := h
  rcases h2 with ⟨h0, _⟩ | ⟨g', cap', cur, hv, hg, hh, h3, h4, h5, h6⟩
  · simp at h0
  · simp only [Value.slice.injEq, Option.some.injEq, Addr.mk.injEq] at hv
    obtain ⟨⟨rfl, _⟩, _, rfl⟩ := hv
    have hc : w.cell? ⟨g, j, none⟩ = cur[j]? := by simp [World.cell?, hh]
    rw [hc]
    have h7 : xs[j]? = (cur.toList.take (xs.length * 1))[j]? := by rw [h6]
    rw [h7, List.getElem?_take, if_pos (by omega)]; simp
theorem Owns.kept {e : TypeId} {base : Nat} {v v' : Value} {xs : List Value} {w w' : World} (h : Owns e base v xs w) (hg : w.grownBy w' v'.ownBlock) (hne : v.ownBlock = none ∨ v.ownBlock ≠ v'.ownBlock) : Owns e base v xs w' := World.ownsRow.kept h hg hne
theorem wpList_app {t e : TypeId} {z : Value} {bytes : Nat} (E : Elem t e z bytes) {ops : Array Oper} {rest : List Oper} {o : Oper} {a : Act} {w : World} {Q : Exit → Act → World → Prop} (hgd : o.guard = none) (s x : Operand)
    (ho : o.op = .call { callee := .builtin .append, args := #[s, x], argTypes := #[t, t] }) (base : Nat) (v : Value) (xs : List Value) (hs : a.eval s = v) (hown : Owns e base v xs w)
    (b c : Nat) (news : Array Value) (hx : a.eval x = .slice (some ⟨b, 0, none⟩) news.size c) (hnews : Has w b news e) (h1 : ∀ u ∈ news.toList, u.oneCell' = true) (hm : 0 < news.size) (h63 : xs.length + news.size ≤ 1000000000000) (hbase : base ≤ w.heap.size)
    (h : ∀ g cap w', Owns e base (.slice (some ⟨g, 0, none⟩) (xs.length + news.size) cap) (xs ++ news.toList) w' → w.grownBy w' v.ownBlock → (v.ownBlock = some g ∨ g = w.heap.size) → Below base w w' → wpList Try.prog ops Q rest (a.put o.dst (.slice (some ⟨g, 0, none⟩) (xs.length + news.size) cap)) w') : wpList Try.prog ops Q (o :: rest) a w := by
  obtain ⟨i, hi, hz0, hz1, hz2⟩ := E.info
  have hbd := E.hb
  refine wpList_append_lies w hgd s x t ho base e i z 1 bytes E.ht hi hz0 hz1 hz2 E.hz (by decide) v xs.length xs hs hown ⟨b, 0, none⟩ news.size c news.toList hx (by simp) (World.news_of_block hnews) h1 hm (by unfold maxLen; omega) (Nat.le_trans (Nat.mul_le_mul h63 hbd) (by decide)) hbase w.heap.size rfl ?_
  intro g cap w' h2 h3 h4 h5
  refine h g cap w' ?_ h3 h4 ((Below.refl base w).grown h3 hbase (fun k hk => (hown.base_le k hk).1))
  show w'.ownsRow base e 1 _ (xs ++ news.toList).length _
  rw [List.length_append, Array.length_toList]; exact h2
theorem step_app {t e : TypeId} {z : Value} {bytes : Nat} (E : Elem t e z bytes) {ops : Array Oper} {o : Oper} {a : Act} {w : World} {K : Act → World → Prop} {Q : Exit → Act → World → Prop} {F : Prop} (hgd : o.guard = none) (s x : Operand)
    (ho : o.op = .call { callee := .builtin .append, args := #[s, x], argTypes := #[t, t] }) (base : Nat) (v : Value) (xs : List Value) (hs : a.eval s = v) (hown : Owns e base v xs w)
    (b c : Nat) (news : Array Value) (hx : a.eval x = .slice (some ⟨b, 0, none⟩) news.size c) (hnews : Has w b news e) (h1 : ∀ u ∈ news.toList, u.oneCell' = true) (hm : 0 < news.size) (h63 : xs.length + news.size ≤ 1000000000000) (hbase : base ≤ w.heap.size)
    (h : ∀ g cap w', Owns e base (.slice (some ⟨g, 0, none⟩) (xs.length + news.size) cap) (xs ++ news.toList) w' → w.grownBy w' v.ownBlock → (v.ownBlock = some g ∨ g = w.heap.size) → Below base w w' → K (a.put o.dst (.slice (some ⟨g, 0, none⟩) (xs.length + news.size) cap)) w') :
    if Region.wanted o (yielded ops a.tmps) = true then Oper.wp Try.prog o a w K Q else F := by
  obtain ⟨i, hi, hz0, hz1, hz2⟩ := E.info
  have hbd := E.hb
  refine step_append_lies w hgd s x t ho base e i z 1 bytes E.ht hi hz0 hz1 hz2 E.hz (by decide) v xs.length xs hs hown ⟨b, 0, none⟩ news.size c news.toList hx (by simp) (World.news_of_block hnews) h1 hm (by unfold maxLen; omega) (Nat.le_trans (Nat.mul_le_mul h63 hbd) (by decide)) hbase w.heap.size rfl ?_
  intro g cap w' h2 h3 h4 h5
  refine h g cap w' ?_ h3 h4 ((Below.refl base w).grown h3 hbase (fun k hk => (hown.base_le k hk).1))
  show w'.ownsRow base e 1 _ (xs ++ news.toList).length _
  rw [List.length_append, Array.length_toList]; exact h2
end Go.Proofs.Ytfbjpgcgdhhfnaa.Mx
namespace Go.Proofs.Ytfbjpgcgdhhfnaa.Mx
open Go.RowKit
theorem belowAlloc {B : Nat} {w w' : World} (h : Below B w w') (o : Obj) (hB : B ≤ w'.heap.size) : Below B w (w'.alloc o) := h.alloc hB o
theorem U8s_toList_length (l : List Nat) : (U8s l).toList.length = l.length := by simp [U8s]
theorem Owns.row {base : Nat} {v : Value} {l : List Nat} {w : World} (h : Owns 5 base v (U8s l).toList w) (hx : ∀ x ∈ l, x < 256) (hl : l.length ≤ 9223372036854775807) : Row8 w v l := by
  by_cases hp : 0 < l.length
  · obtain ⟨g, cap, hv, h1, h2, h3, h4, _⟩ := h.form (by rw [U8s_toList_length]; exact hp)
    subst hv
    rw [U8s_toList_length] at h h1 ⊢
    refine ⟨_, _, rfl, hl, hx, fun _ => ⟨g, 0, rfl, h4, fun j hj => ?_⟩⟩
    rw [Nat.zero_add, h.cell j (by rw [U8s_toList_length]; exact hj), Array.getElem?_toList, U8s_get _ _ hj]
  · have h0 : l = [] := List.eq_nil_of_length_eq_zero (by omega)
    subst h0
    obtain ⟨_, h2⟩ := h
    rcases h2 with ⟨rfl, _⟩ | ⟨g, cap, cur, rfl, _⟩
    · exact Row8.nil w
    · exact ⟨_, _, rfl, hl, hx, fun h => absurd h (by simp)⟩
theorem Owns.ofHas {base g : Nat} {l : List Nat} {w : World} (h : Has w g (U8s l) 5) (hg : base ≤ g) (hl : l.length ≤ 9223372036854775807) : Owns 5 base (.slice (some ⟨g, 0, none⟩) l.length l.length) (U8s l).toList w := by
  refine ⟨by simp, .inr ⟨g, l.length, U8s l, by rw [U8s_toList_length], hg, h, by rw [U8s_toList_length]; exact Nat.le_refl _, hl, by simp [U8s], ?_⟩⟩
  rw [List.take_of_length_le (by simp)]
def OutRows (base : Nat) (w : World) (v : Value) (rs : List (List Nat)) : Prop := ∃ vs : List Value, vs.length = rs.length ∧ Owns 31 base v vs w ∧ ∀ j, j < rs.length → Owns 5 base (vs.getD j (.bool false)) (U8s (rs.getD j [])).toList w ∧ ∀ x ∈ rs.getD j [], x < 256
theorem OutRows.nil (base : Nat) (w : World) : OutRows base w (.slice none 0 0) [] := ⟨[], rfl, Owns.nil _ _ _, fun j hj => absurd hj (by simp)⟩
theorem OutRows.below {base : Nat} {w w' : World} {v : Value} {rs : List (List Nat)} (h : OutRows base w v rs) (hb : Below w.heap.size w w') : OutRows base w' v rs := by
  obtain ⟨vs, h1, h2, h3⟩ := h
  exact ⟨vs, h1, h2.below hb, fun j hj => ⟨(h3 j hj).1.below hb, (h3 j hj).2⟩⟩
theorem OutRows.mat {base : Nat} {w : World} {v : Value} {rs : List (List Nat)} (h : OutRows base w v rs) (hl : rs.length ≤ 1000000) (hc : ∀ i, i < rs.length → (rs.getD i []).length ≤ 1000000) : Mat w v rs := by
  obtain ⟨vs, h1, h2, h3⟩ := h
  by_cases hp : 0 < rs.length
  · obtain ⟨g, cap, hv, k1, k2, k3, k4, _⟩ := h2.form (by omega)
    subst hv
    rw [h1] at h2 k1 ⊢
    refine ⟨_, _, rfl, by omega, fun _ => ⟨g, 0, rfl, k4, fun j hj => ⟨vs.getD j (.bool false), ?_, (h3 j hj).1.row (h3 j hj).2 (by have := hc j hj; omega)⟩⟩⟩
    rw [Nat.zero_add, h2.cell j (by omega), List.getD_eq_getElem?_getD, List.getElem?_eq_getElem (by omega)]; rfl
  · have h0 : rs = [] := List.eq_nil_of_length_eq_zero (by omega)
    subst h0
    have h00 : vs = [] := List.eq_nil_of_length_eq_zero h1
    subst h00
    obtain ⟨_, k2⟩ := h2
    rcases k2 with ⟨rfl, _⟩ | ⟨g, cap, cur, rfl, _⟩
    · exact Mat.nil w
    · exact ⟨_, _, rfl, by simp, fun h => absurd h (by simp)⟩
theorem own_apart {base : Nat} {v r : Value} {xs ys : List Value} {w : World} (h1 : Owns 31 base v xs w) (h2 : Owns 5 base r ys w) : r.ownBlock = none ∨ r.ownBlock ≠ v.ownBlock := by
  obtain ⟨_, h2⟩ := h2
  rcases h2 with ⟨rfl, _⟩ | ⟨g, cap, cur, rfl, _, hh, _⟩
  · exact .inl rfl
  · right
    obtain ⟨_, h1⟩ := h1
    rcases h1 with ⟨rfl, _⟩ | ⟨g', cap', cur', rfl, _, hh', _⟩
    · simp [Value.ownBlock]
    · simp only [Value.ownBlock, ne_eq, Option.some.injEq]
      rintro rfl
      rw [hh] at hh'
      simp at hh'
theorem U8s_app1 (l : List Nat) (y : Nat) : (U8s l).toList ++ #[Value.int .u8 (y : Int)].toList = (U8s (l ++ [y])).toList := by simp [U8s]
/-- one number more -/
theorem wpList_app8 {ops : Array Oper} {rest : List Oper} {o : Oper} {a : Act} {w : World} {Q : Exit → Act → World → Prop} (hgd : o.guard = none) (s x : Operand)
    (ho : o.op = .call { callee := .builtin .append, args := #[s, x], argTypes := #[31, 31] }) (base : Nat) (v : Value) (l : List Nat) (hs : a.eval s = v) (hown : Owns 5 base v (U8s l).toList w)
    (b c y : Nat) (hx : a.eval x = .slice (some ⟨b, 0, none⟩) 1 c) (hnews : Has w b #[.int .u8 (y : Int)] 5) (hl : l.length ≤ 1000000) (hbase : base ≤ w.heap.size)
    (h : ∀ v' w', Owns 5 base v' (U8s (l ++ [y])).toList w' → Below base w w' → wpList Try.prog ops Q rest (a.put o.dst v') w') : wpList Try.prog ops Q (o :: rest) a w := by
  refine wpList_app el5 hgd s x ho base v _ hs hown b c #[.int .u8 (y : Int)] hx hnews (by simp [Value.oneCell']) (by simp) (by rw [U8s_toList_length]; simp; omega) hbase ?_
  intro g cap w' h1 _ _ h4
  rw [U8s_app1] at h1
  exact h _ w' h1 h4
/-- one row more -/
theorem wpList_appRow {ops : Array Oper} {rest : List Oper} {o : Oper} {a : Act} {w : World} {Q : Exit → Act → World → Prop} (hgd : o.guard = none) (s x : Operand)
    (ho : o.op = .call { callee := .builtin .append, args := #[s, x], argTypes := #[46, 46] }) (base : Nat) (v r : Value) (rs : List (List Nat)) (l : List Nat) (hs : a.eval s = v) (hown : OutRows base w v rs)
    (b c : Nat) (hx : a.eval x = .slice (some ⟨b, 0, none⟩) 1 c) (hnews : Has w b #[r] 31) (hr : Owns 5 base r (U8s l).toList w) (hlt : ∀ x ∈ l, x < 256) (hl : rs.length ≤ 1000000) (hbase : base ≤ w.heap.size)
    (h : ∀ v' w', OutRows base w' v' (rs ++ [l]) → Below base w w' → wpList Try.prog ops Q rest (a.put o.dst v') w') : wpList Try.prog ops Q (o :: rest) a w := by
  obtain ⟨vs, k1, k2, k3⟩ := hown
  have hone : r.oneCell' = true := by
    obtain ⟨_, h2⟩ := hr
    rcases h2 with ⟨rfl, _⟩ | ⟨g, cap, cur, rfl, _⟩ <;> simp [Value.oneCell']
  refine wpList_app el31 hgd s x ho base v _ hs k2 b c #[r] hx hnews (by simpa using hone) (by simp) (by simp; omega) hbase ?_
  intro g cap w' h1 h2 _ h4
  refine h _ w' ⟨vs ++ [r], by simp; omega, h1, fun j hj => ?_⟩ h4
  simp only [List.length_append, List.length_cons, List.length_nil] at hj
  by_cases he : j < rs.length
  · rw [getD_app_old _ _ _ _ (by omega), getD_app_old _ _ _ _ he]
    exact ⟨World.ownsRow.kept (k3 j he).1 h2 (own_apart k2 (k3 j he).1), (k3 j he).2⟩
  · rw [getD_app_new _ _ _ _ (by omega), getD_app_new _ _ _ _ (by omega)]
    exact ⟨World.ownsRow.kept hr h2 (own_apart k2 hr), hlt⟩
end Go.Proofs.Ytfbjpgcgdhhfnaa.Mx
namespace Go.Proofs.Ytfbjpgcgdhhfnaa.Mx
open Go.RowKit
theorem refMay_any (v : Value) (m : List (List Nat)) (w : World) (h : Mat w v m) :
    Calls Try.prog 39 #[v] w fun e w' => e = .returned (.bool (mayM m)) ∧ Below w.heap.size w w' := by
  by_cases h0 : m.length = 0
  · obtain ⟨a, cap, rfl⟩ := h.zero h0
    have hr : mayM m = false := by unfold mayM; simp; omega
    rw [hr]
    go_enter Try.func39, Try.ntmps39
    go_wp2_with fail
    go_ret
    exact ⟨rfl, Below.refl _ _⟩
  · obtain ⟨g, o, cap, rfl, hml, hg, hrows⟩ := h.some (by omega)
    have b0 : (0 : Int) < (m.length : Int) := by omega
    have d1 : decide ((m.length : Int) < 1) = false := by simp; omega
    by_cases h1' : ¬ m.length ≤ 12
    · have hr : mayM m = false := by unfold mayM; simp; omega
      rw [hr]
      have d2 : decide ((12 : Int) < (m.length : Int)) = true := by simp; omega
      go_enter Try.func39, Try.ntmps39
      go_wp2_with fail
      go_ret
      exact ⟨rfl, Below.refl _ _⟩
    have h1 : m.length ≤ 12 := by omega
    have d2 : decide ((12 : Int) < (m.length : Int)) = false := by simp; omega
    have HM : Hid (mayM m = decide (∀ j, j < m.length → 1 ≤ (m.getD j []).length ∧ (m.getD j []).length ≤ 12 ∧ (m.getD j []).length = (m.getD 0 []).length)) := by
      unfold Hid mayM
      rw [decide_eq_decide]
      constructor
      · intro hh j hj
        have := hh.2.2.2.2 j hj
        exact ⟨by omega, by omega, this⟩
      · intro hh
        have := hh 0 (by omega)
        exact ⟨by omega, h1, this.1, this.2.1, fun j hj => (hh j hj).2.2⟩
    obtain ⟨r0, c0, hr0⟩ := hrows 0 (by omega)
    obtain ⟨a0, cap0, rfl, hl0, _, _⟩ := hr0
    simp only [Nat.add_zero] at c0
    generalize hn0 : (m.getD 0 []).length = n0 at *
    generalize hn : m.length = n at *
    go_enter Try.func39, Try.ntmps39
    go_wp2_with fail
    go_loopw [3] (fun vi wr => ∃ k : Nat, k ≤ n ∧ vi = .int .i64 (k : Int) ∧ Hid (∀ j, j < k → 1 ≤ (m.getD j []).length ∧ (m.getD j []).length ≤ 12 ∧ (m.getD j []).length = n0) ∧ Below w.heap.size w wr) (fun vi _ => n - (intOf vi).toNat)
    case atStart => exact ⟨0, by omega, rfl, fun j hj => absurd hj (by omega), Below.refl _ _⟩
    case round =>
      obtain ⟨k, hk, rfl, hj, hb⟩ := hrel
      by_cases hlt : k < n
      · obtain ⟨r, c, hr⟩ := hrows k hlt
        obtain ⟨a1, cap1, rfl, hl1, _, _⟩ := hr
        have d0 : (k : Int) < (n : Int) := by omega
        replace c := cell_below hb hg c
        replace c0 := cell_below hb hg c0
        generalize hnk : (m.getD k []).length = nk at *
        by_cases ha : nk < 1
        · have e0 : decide ((nk : Int) < 1) = true := by simp; omega
          have hr : mayM m = false := by rw [HM.out, decide_eq_false_iff_not]; exact fun hh => by have := hh k hlt; omega
          go_wp2_with fail
          go_quiet (fail)
          go_wp2_with fail
          go_ret
          exact ⟨by rw [hr]; rfl, below_drewN hb _⟩
        have e0 : decide ((nk : Int) < 1) = false := by simp; omega
        by_cases ha2 : 12 < nk
        · have e1 : decide ((12 : Int) < (nk : Int)) = true := by simp; omega
          have hr : mayM m = false := by rw [HM.out, decide_eq_false_iff_not]; exact fun hh => by have := hh k hlt; omega
          go_wp2_with fail
          go_quiet (fail)
          go_wp2_with fail
          go_ret
          exact ⟨by rw [hr]; rfl, below_drewN hb _⟩
        have e1 : decide ((12 : Int) < (nk : Int)) = false := by simp; omega
        by_cases he : nk = n0
        · obtain rfl := he
          have e2 : ((nk : Int) != (nk : Int)) = false := by simp
          go_wp2_with fail
          go_quiet (fail)
          go_wp2_with fail
          exact ⟨⟨k + 1, by omega, rfl, fun j hj' => by
            by_cases hjk : j < k
            · exact hj.out j hjk
            · obtain rfl : j = k := by omega
              rw [hnk]; omega, below_drewN hb _⟩, by simp [intOf]; omega⟩
        · have e2 : ((nk : Int) != (n0 : Int)) = true := by simp; omega
          have hr : mayM m = false := by rw [HM.out, decide_eq_false_iff_not]; exact fun hh => by have := hh k hlt; omega
          go_wp2_with fail
          go_quiet (fail)
          go_wp2_with fail
          go_ret
          exact ⟨by rw [hr]; rfl, below_drewN hb _⟩
      · obtain rfl : k = n := by omega
        have hr : mayM m = true := by rw [HM.out, decide_eq_true_iff]; exact hj.out
        go_wp2_with fail
        go_ret
        exact ⟨by rw [hr]; rfl, hb⟩
end Go.Proofs.Ytfbjpgcgdhhfnaa.Mx
namespace Go.Proofs.Ytfbjpgcgdhhfnaa.Mx
open Go.RowKit
theorem mayM_facts {m : List (List Nat)} (h : mayM m = true) : 1 ≤ m.length ∧ m.length ≤ 12 ∧ 1 ≤ (m.getD 0 []).length ∧ (m.getD 0 []).length ≤ 12 ∧ ∀ j, j < m.length → (m.getD j []).length = (m.getD 0 []).length := of_decide_eq_true h
theorem Mat.may {w : World} {v : Value} {m : List (List Nat)} (h : Mat w v m) (hm : mayM m = true) : ∃ g o cap, v = .slice (.some ⟨g, o, none⟩) m.length cap ∧ g < w.heap.size ∧
    ∀ j, j < m.length → ∃ gr q cr, gr < w.heap.size ∧ w.cell? ⟨g, o + j, none⟩ = .some (.slice (.some ⟨gr, q, none⟩) (m.getD 0 []).length cr) ∧ ∀ i, i < (m.getD 0 []).length → w.cell? ⟨gr, q + i, none⟩ = .some (.int .u8 (((m.getD j []).getD i 0 : Nat) : Int)) ∧ (m.getD j []).getD i 0 < 256 := by
  obtain ⟨f1, f2, f3, f4, f5⟩ := mayM_facts hm
  obtain ⟨g, o, cap, h1, h2, h3, h4⟩ := h.some (by omega)
  refine ⟨g, o, cap, h1, h3, fun j hj => ?_⟩
  obtain ⟨r, h5, h6⟩ := h4 j hj
  obtain ⟨gr, q, cr, rfl, h7, h8, h9, h10⟩ := h6.some (by have := f5 j hj; omega)
  rw [f5 j hj] at h5 h7 h10
  exact ⟨gr, q, cr, h9, h5, fun i hi => ⟨h10 i hi, getD_lt h8 i⟩⟩
end Go.Proofs.Ytfbjpgcgdhhfnaa.Mx
namespace Go.Proofs.Ytfbjpgcgdhhfnaa.Mx
open Go.RowKit
/-- a row in new memory -/
def NewRow (base : Nat) (w : World) (v : Value) (l : List Nat) : Prop := (∀ x ∈ l, x < 256) ∧ l.length ≤ 1000000 ∧ ((v = .slice none 0 0 ∧ l = []) ∨ ∃ g, v = .slice (some ⟨g, 0, none⟩) l.length l.length ∧ base ≤ g ∧ Has w g (U8s l) 5)
theorem NewRow.below {base : Nat} {w w' : World} {v : Value} {l : List Nat} (h : NewRow base w v l) (hb : Below w.heap.size w w') : NewRow base w' v l := by
  obtain ⟨h1, h2, h3⟩ := h
  refine ⟨h1, h2, h3.imp id ?_⟩
  rintro ⟨g, e, k1, k2⟩
  exact ⟨g, e, k1, k2.below hb k2.lt⟩
theorem NewRow.row {base : Nat} {w : World} {v : Value} {l : List Nat} (h : NewRow base w v l) : Row8 w v l := by
  obtain ⟨h1, h2, h3⟩ := h
  rcases h3 with ⟨rfl, rfl⟩ | ⟨g, rfl, k1, k2⟩
  · exact Row8.nil w
  · exact ⟨_, _, rfl, by omega, h1, fun _ => ⟨g, 0, rfl, k2.lt, fun j hj => by rw [Nat.zero_add, k2.cell, U8s_get _ _ hj]⟩⟩
/-- a list of rows in new memory -/
def NewMat (base : Nat) (w : World) (v : Value) (m : List (List Nat)) : Prop := m.length ≤ 1000000 ∧ (∀ i, i < m.length → (m.getD i []).length ≤ 1000000) ∧ ((v = .slice none 0 0 ∧ m = []) ∨ ∃ T, v = .slice (some ⟨T, 0, none⟩) m.length m.length ∧ RowsAt base T m.length w m)
theorem NewMat.below {base : Nat} {w w' : World} {v : Value} {m : List (List Nat)} (h : NewMat base w v m) (hb : Below w.heap.size w w') : NewMat base w' v m := by
  obtain ⟨h1, h2, h3⟩ := h
  refine ⟨h1, h2, h3.imp id ?_⟩
  rintro ⟨T, e, k1⟩
  exact ⟨T, e, k1.below hb⟩
theorem NewMat.mat {base : Nat} {w : World} {v : Value} {m : List (List Nat)} (h : NewMat base w v m) : Mat w v m := by
  obtain ⟨h1, h2, h3⟩ := h
  rcases h3 with ⟨rfl, rfl⟩ | ⟨T, rfl, k⟩
  · exact Mat.nil w
  · exact k.mat h1 h2
theorem NewMat.wr {base : Nat} {w : World} {v : Value} {m : List (List Nat)} (h : NewMat base w v m) : Wr base w.heap.size w v := by
  obtain ⟨h1, h2, h3⟩ := h
  rcases h3 with ⟨rfl, rfl⟩ | ⟨T, rfl, k⟩
  · exact Wr.nil base _ w
  · exact k.wr h1 h2
theorem NewMat.nil (base : Nat) (w : World) : NewMat base w (.slice none 0 0) [] := ⟨by simp, by simp, .inl ⟨rfl, rfl⟩⟩
theorem NewRow.nil (base : Nat) (w : World) : NewRow base w (.slice none 0 0) [] := ⟨by simp, by simp, .inl ⟨rfl, rfl⟩⟩
def grid (c n : Nat) (f : Nat → Nat → Nat) : List (List Nat) := (List.range c).map fun j => (List.range n).map fun i => f j i
theorem grid_length (c n : Nat) (f : Nat → Nat → Nat) : (grid c n f).length = c := by simp [grid]
theorem grid_row (c n : Nat) (f : Nat → Nat → Nat) (j : Nat) (hj : j < c) : (grid c n f).getD j [] = (List.range n).map fun i => f j i := by
  simp [grid, List.getD_eq_getElem?_getD, hj]
theorem grid_row_length (c n : Nat) (f : Nat → Nat → Nat) (j : Nat) (hj : j < c) : ((grid c n f).getD j []).length = n := by
  rw [grid_row _ _ _ _ hj]; simp
theorem grid_congr {c n : Nat} {f f' : Nat → Nat → Nat} (h : ∀ j i, j < c → i < n → f j i = f' j i) : grid c n f = grid c n f' := by
  unfold grid
  apply List.map_congr_left
  intro j hj
  apply List.map_congr_left
  intro i hi
  exact h j i (List.mem_range.1 hj) (List.mem_range.1 hi)
theorem grid_set (c n : Nat) (f : Nat → Nat → Nat) (j i x : Nat) (hj : j < c) : (grid c n f).set j (((grid c n f).getD j []).set i x) = grid c n (fun a b => if a = j ∧ b = i then x else f a b) := by
  apply ext_getD []
  · simp [grid]
  · intro a ha
    simp only [List.length_set, grid_length] at ha
    rw [grid_row c n _ a ha]
    by_cases haj : a = j
    · subst haj
      rw [getD_set_same _ _ _ _ (by rw [grid_length]; exact ha), grid_row c n f a ha]
      apply ext_getD 0
      · simp
      · intro b hb
        simp only [List.length_set, List.length_map, List.length_range] at hb
        by_cases hbi : b = i
        · subst hbi
          rw [getD_set_same _ _ _ _ (by simp; exact hb)]
          simp [List.getD_eq_getElem?_getD, hb]
        · rw [getD_set_other _ _ _ _ _ hbi]
          simp [List.getD_eq_getElem?_getD, hb, hbi]
    · rw [getD_set_other _ _ _ _ _ haj, grid_row c n f a ha]
      apply List.map_congr_left
      intro b _
      simp [haj]
theorem grid_zero (c n : Nat) : List.replicate c (List.replicate n 0) = grid c n (fun _ _ => 0) := by
  unfold grid
  rw [List.map_const', List.map_const']; simp
end Go.Proofs.Ytfbjpgcgdhhfnaa.Mx
namespace Go.Proofs.Ytfbjpgcgdhhfnaa.Mx
open Go.RowKit
theorem take_getD {α : Type} (l : List α) (d : α) (k : Nat) (hk : k < l.length) : l.take k ++ [l.getD k d] = l.take (k + 1) := by
  rw [List.take_succ_eq_append_getElem hk, List.getD_eq_getElem?_getD, List.getElem?_eq_getElem hk]; rfl
end Go.Proofs.Ytfbjpgcgdhhfnaa.Mx
namespace Go.Proofs.Ytfbjpgcgdhhfnaa.Mx
open Go.RowKit
theorem Owns.mono {e : TypeId} {base base' : Nat} {v : Value} {xs : List Value} {w : World} (h : Owns e base v xs w) (hb : base' ≤ base) : Owns e base' v xs w := by
  obtain ⟨h1, h2⟩ := h
  refine ⟨h1, h2.imp id ?_⟩
  rintro ⟨g, cap, cur, hv, hg, h3⟩
  exact ⟨g, cap, cur, hv, Nat.le_trans hb hg, h3⟩
end Go.Proofs.Ytfbjpgcgdhhfnaa.Mx
