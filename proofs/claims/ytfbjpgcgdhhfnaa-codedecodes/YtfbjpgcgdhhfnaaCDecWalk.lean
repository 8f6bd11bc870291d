/- CodeDecodes' walk. -/
import Derived.Test.YtfbjpgcgdhhfnaaCDecs
namespace Go.Proofs.Ytfbjpgcgdhhfnaa
open Go.ChangeShapes Go.WideShapes Go.ChangeAt Go.RowKit Go.Joins Go.WideMaps Go.WideElems
theorem open_listC {H : Type} {enc : TypeId × Value → H} {W : World} {b0 : Nat} {v : Value} {d : DataW H} {p : List MemPlace} (hv : Value.okWide Try.prog W .any b0 32 v) (h : DataW.Trod enc Try.prog W 0 (fun _ => true) true 32 v d p) : CapOk v := by
  obtain ⟨a0, len, cap, rfl⟩ := okWide_slice Try.underlying32 hv
  obtain ⟨fuel, hf⟩ := h
  intro a n c e
  simp only [Value.slice.injEq] at e
  obtain ⟨rfl, rfl, rfl⟩ := e
  rcases open_ints Try.underlying32 Try.underlying3 cells3 hf with ⟨hcs, hx⟩ | ⟨a, len', cap', zs, hcs, _, hl, hm, hz, hx, hcell, hwz⟩
  · simp [Value.cells] at hcs
    obtain ⟨rfl, rfl, rfl⟩ := hcs
    omega
  · simp [Value.cells] at hcs
    obtain ⟨rfl, rfl, rfl⟩ := hcs
    unfold maxLen at hm
    omega
set_option maxRecDepth 20000 in
theorem decodes_walk (K N x : Int) (vz vp : Value) (zs : List Int) (ps : List (List Nat)) (w : World) (hz : Ints64 w vz zs) (hcap : CapOk vz) (hp : Strs w vp ps) (hs : ∀ j, (ps.getD j []).length ≤ 140737488355328) :
    Calls Try.prog 5 #[cv K N, vz, vp, .int .i64 x] w fun e w' => e = .returned (.bool true) ∧ Below w.heap.size w w' := by
  have bA : Below w.heap.size w (w.alloc (.cells #[.int .i64 K, .int .i64 N] 24)) := (Below.refl _ _).alloc (Nat.le_refl _) _
  have hbox : Has (w.alloc (.cells #[.int .i64 K, .int .i64 N] 24)) w.heap.size #[.int .i64 K, .int .i64 N] 24 := Has.new w w.heap.size _ 24 rfl
  have HLa := hid (large_any vp ps _ (hp.below bA) hs)
  have HDe : Hid (∀ W, Below w.heap.size w W → _) := fun W hW => decode_any K N vz vp zs ps W ⟨hz.1.below hW, hz.2⟩ (hp.below hW)
  have HRd : Hid (∀ W, Below w.heap.size w W → _) := fun W hW => refDecode_any K N vz vp zs ps W ⟨hz.1.below hW, hz.2⟩ hcap (hp.below hW)
  have HRe : Hid (∀ W, Below w.heap.size w W → _) := fun W hW => rebuild_any K N x vz vp zs ps W ⟨hz.1.below hW, hz.2⟩ (hp.below hW)
  have HRr : Hid (∀ W, Below w.heap.size w W → _) := fun W hW => refRebuild_any K N x vz vp zs ps W ⟨hz.1.below hW, hz.2⟩ hcap (hp.below hW)
  obtain ⟨⟨az, cz, hvz, _⟩, _⟩ := hz
  subst hvz
  clear hcap hs
  generalize hnz : zs.length = n at *
  unfold cv at HDe HRd HRe HRr ⊢
  go_enter Try.func5, Try.ntmps5
  go_wp2_with fail
  refine HLa.out.mono ?_
  rintro e w1 ⟨bl, rfl, rfl⟩
  have c0 := hbox.cell 0
  have c1 := hbox.cell 1
  cases bl with
  | true =>
    go_wp2_with fail
    go_ret
    exact ⟨rfl, bA⟩
  | false =>
    by_cases h200 : 200 < n
    · have d1 : decide ((200 : Int) < (n : Int)) = true := by simp; omega
      go_wp2_with fail
      go_ret
      exact ⟨rfl, bA⟩
    · have d1 : decide ((200 : Int) < (n : Int)) = false := by simp; omega
      go_wp2_with fail
      refine (HDe.out _ bA).mono ?_
      rintro e w2 ⟨s1, e1, rfl, hd1, b2⟩
      have B2 := belowCall bA b2
      have hb2 := hbox.below b2 (by simp)
      have hbl2 := hb2.lt
      have HD1 := hid hd1
      clear c0 c1 hd1 b2
      have c0 : w2.cell? ⟨w.heap.size, 0, none⟩ = some (.int .i64 K) := hb2.cell 0
      have c1 : w2.cell? ⟨w.heap.size, 1, none⟩ = some (.int .i64 N) := hb2.cell 1
      go_wp2_with fail
      refine (HRd.out w2 B2).mono ?_
      rintro e w3 ⟨s2, e2, rfl, hd2, b3⟩
      have B3 := belowCall B2 b3
      have hb3 := hb2.below b3 hbl2
      have hbl3 := hb3.lt
      obtain ⟨rfl, rfl⟩ := HD1.out.one hd2
      clear c0 c1 hd2 b3 HD1
      have c0 : w3.cell? ⟨w.heap.size, 0, none⟩ = some (.int .i64 K) := hb3.cell 0
      have c1 : w3.cell? ⟨w.heap.size, 1, none⟩ = some (.int .i64 N) := hb3.cell 1
      have q1 := str_eq (ofBs s1)
      have q2 : (e1 != e1) = false := by simp
      go_wp2_with fail
      refine (HRe.out w3 B3).mono ?_
      rintro e w4 ⟨s3, e3, rfl, hd3, _, b4⟩
      have B4 := belowCall B3 b4
      have hb4 := hb3.below b4 hbl3
      have hbl4 := hb4.lt
      have HD3 := hid hd3
      clear c0 c1 hd3 b4 q1 q2
      have c0 : w4.cell? ⟨w.heap.size, 0, none⟩ = some (.int .i64 K) := hb4.cell 0
      have c1 : w4.cell? ⟨w.heap.size, 1, none⟩ = some (.int .i64 N) := hb4.cell 1
      go_wp2_with fail
      refine (HRr.out w4 B4).mono ?_
      rintro e w5 ⟨s4, e4, rfl, hd4, _, b5⟩
      have B5 := belowCall B4 b5
      obtain ⟨rfl, rfl⟩ := HD3.out.one hd4
      have q1 := str_eq (ofBs s3)
      have q2 : (e3 == e3) = true := by simp
      clear hd4 b5 HD3
      go_wp2_with fail
      go_ret
      exact ⟨rfl, B5⟩
end Go.Proofs.Ytfbjpgcgdhhfnaa
