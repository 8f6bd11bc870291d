/- The contract of the program's Packs. -/
import Derived.Test.YtknddbmnciodaaaGreatKeys
import Derived.Test.YtknddbmnciodaaaGreatFind
namespace Go.Proofs.YtknddbmnciodaaaGreat
open Go.RowKit Go.Lib Go.Sort
open Ix
set_option linter.unusedVariables false
theorem packs_mem {C : List ByteArray} {P : List Pl} (h : C.length = P.length) (s : ByteArray) : s ∈ packsOf (C.zip P) ↔ s ∈ P.map (·.pack) := by
  rw [mem_packs, List.mem_map]
  constructor
  · rintro ⟨e, he, rfl⟩
    exact ⟨e.2, (List.of_mem_zip he).2, rfl⟩
  · rintro ⟨p, hp, rfl⟩
    have h2 := zip_snd h
    have : p ∈ (C.zip P).map Prod.snd := by rw [h2]; exact hp
    obtain ⟨e, he, rfl⟩ := List.mem_map.1 this
    exact ⟨e, he, rfl⟩
/-- the packs, or none -/
def packsV (C : List ByteArray) (P : List Pl) : List ByteArray := if mayS C P = true then packsOf (C.zip P) else []
def packsE (C : List ByteArray) (P : List Pl) : Int := if mayS C P = true then 0 else 4
theorem packsV_len (C : List ByteArray) (P : List Pl) : (packsV C P).length ≤ 400 := by
  unfold packsV
  by_cases h : mayS C P = true
  · rw [if_pos h]
    have h1 := (mayS_iff.1 h).2.most
    have h2 := packs_len (C.zip P)
    omega
  · rw [if_neg h]; simp
set_option maxHeartbeats 8000000 in
theorem packs_any (s : St) (a0 a1 a2 : Option Addr) (c0 c1 c2 : Nat) (hn : s.C.length ≤ 100000) (hn2 : s.P.length ≤ 100000) (w : World) (hC : Tx w a1 s.C) (hP : Ps w a2 s.P) :
    Calls Tryz.prog 13 #[.agg (stV s a0 a1 a2 c0 c1 c2)] w fun e w' => ∃ v, e = .returned (.tuple #[v, .int .i64 (packsE s.C s.P)]) ∧ w'.ownsRow w.heap.size 9 1 v (packsV s.C s.P).length ((packsV s.C s.P).map Value.string) ∧ RowKit.Below w.heap.size w w' := by
  have hmm := @run_makeMap Tryz.prog
  obtain ⟨w1, hw1, hB, n1⟩ := box_state (w := w) s a0 a1 a2 c0 c1 c2
  obtain ⟨b, hb⟩ : ∃ b, b = w.heap.size := ⟨_, rfl⟩
  rw [← hb] at n1
  have HN1 := hid (fun W (hW : RowKit.Below w1.heap.size w1 W) => n1.below hW n1.lt)
  have C0 := may_any s a0 a1 a2 c0 c1 c2 hn hn2 w1 (hC.below hB) (hP.below hB)
  have HPs := hid (hP.below hB)
  have HB := hid hB
  have HBW := hid hb
  have k0 : w1.cell? ⟨b, 0, none⟩ = some (.int .i64 s.k) := by rw [n1.cell]; rfl
  have k1 : w1.cell? ⟨b, 1, none⟩ = some (.int .i64 s.n) := by rw [n1.cell]; rfl
  have k2 : w1.cell? ⟨b, 2, none⟩ = some (.int .i64 s.nx) := by rw [n1.cell]; rfl
  have k3 : w1.cell? ⟨b, 3, none⟩ = some (.slice a0 s.sn.length c0) := by rw [n1.cell]; rfl
  have k4 : w1.cell? ⟨b, 4, none⟩ = some (.slice a1 s.C.length c1) := by rw [n1.cell]; rfl
  have k5 : w1.cell? ⟨b, 5, none⟩ = some (.slice a2 s.P.length c2) := by rw [n1.cell]; rfl
  clear hB n1 hC hP
  change w1 = w.alloc (.cells #[.int .i64 s.k, .int .i64 s.n, .int .i64 s.nx, .slice a0 s.sn.length c0, .slice a1 s.C.length c1, .slice a2 s.P.length c2] 35) at hw1
  show Calls Tryz.prog 13 #[.agg #[.int .i64 s.k, .int .i64 s.n, .int .i64 s.nx, .slice a0 s.sn.length c0, .slice a1 s.C.length c1, .slice a2 s.P.length c2]] w _
  change Calls Tryz.prog 9 #[.agg #[.int .i64 s.k, .int .i64 s.n, .int .i64 s.nx, .slice a0 s.sn.length c0, .slice a1 s.C.length c1, .slice a2 s.P.length c2]] w1 _ at C0
  go_enter Tryz.func13, Tryz.ntmps13
  go_upto_region 1 with fail
  rw [← hw1, ← hb]
  clear hw1 hb
  go_wp2_with fail
  refine C0.mono ?_
  rintro e w2 ⟨rfl, b2⟩
  have HB2 := hid (HB.out.trans (b2.mono HB.out.size))
  have N2 := hid (HN1.out w2 b2)
  have HP2 := hid (HPs.out.below b2)
  clear C0 b2 k0 k1 k2 k3 k4 k5 HN1 HB HPs
  cases hmay : mayS s.C s.P with
  | false =>
    have H4 : Hid (packsE s.C s.P = 4) := hid (by unfold packsE; rw [hmay]; rfl)
    have HV : Hid (packsV s.C s.P = []) := hid (by unfold packsV; rw [hmay]; rfl)
    clear hmay
    go_wp2_with fail
    exact bodyPost_ret (v := .tuple #[.slice none 0 0, .int .i64 4]) (by simp [results, Tryz.results13, go_sem]) rfl ⟨_, by rw [H4.out], by rw [HV.out]; exact World.ownsRow_nil _ _ _ _, HB2.out⟩
  | true =>
    have H4 : Hid (packsE s.C s.P = 0) := hid (by unfold packsE; rw [hmay]; rfl)
    have HV : Hid (packsV s.C s.P = packsOf (s.C.zip s.P)) := hid (by unfold packsV; rw [hmay]; rfl)
    have hlen := (mayS_iff.1 hmay).1
    have HSZ : Hid (∀ p ∈ s.P, p.pack.size = 32) := hid (fun p hp => by
      have h1 := mayS_iff.1 hmay
      obtain ⟨i, hi, e⟩ := List.mem_iff_getElem.1 hp
      have h2 := h1.2.places _ (List.mem_of_getElem? (zip_get (C := s.C) (P := s.P) (i := i) (by omega) hi))
      have h3 : s.P.getD i default = p := by rw [List.getD_eq_getElem?_getD, List.getElem?_eq_getElem hi]; exact e
      rw [h3] at h2
      exact h2.1)
    have HL := hid hlen
    have HPL := hid (packsV_len s.C s.P)
    clear hmay hlen
    obtain ⟨w3, hw3⟩ : ∃ w3, w3 = w2.alloc (.map #[] 0) := ⟨_, rfl⟩
    obtain ⟨mb, hmb⟩ : ∃ mb, mb = w2.heap.size := ⟨_, rfl⟩
    have hb3 : RowKit.Below w2.heap.size w2 w3 := by rw [hw3]; exact (RowKit.Below.refl _ _).alloc (Nat.le_refl _) _
    have hS3 : SMap w3 mb [] := by rw [hw3, hmb]; exact SMap.made w2
    have n3 := N2.out.below hb3 N2.out.lt
    have k5 : w3.cell? ⟨b, 5, none⟩ = some (.slice a2 s.P.length c2) := by rw [n3.cell]; rfl
    have HS3 := hid hS3
    have HP3 := hid (HP2.out.below hb3)
    have HB3 := hid (HB2.out.trans (hb3.mono HB2.out.size))
    have HMB : Hid (w.heap.size ≤ mb) := hid (by rw [hmb]; exact HB2.out.size)
    clear hS3 hb3 n3 HP2 N2 HB2
    generalize hm : s.P.length = m at *
    have HM := hid hm
    clear hm
    go_upto_region 4 with fail
    rw [← hw3, ← hmb]
    clear hw3 hmb
    go_wp2_with fail
    go_loopw [14] (fun v14 wr => ∃ k : Nat, k ≤ m ∧ v14 = .int .i64 (k : Int) ∧ Hid (SMap wr mb ((s.P.take k).map (·.pack))) ∧ Hid (Ps wr a2 s.P) ∧ Hid (RowKit.Below w.heap.size w wr)) (fun v14 _ => m - (intOf v14).toNat)
    case atStart => exact ⟨0, Nat.zero_le _, rfl, by simpa using HS3, HP3, HB3⟩
    case round =>
      clear HS3 HP3 HB3 k5
      obtain ⟨k, hk, rfl, HS, HP, HB⟩ := hrel
      by_cases hlt : k < m
      · have hlt1 : k < s.P.length := by rw [HM.out]; exact hlt
        obtain ⟨g, o, rfl, hg, e1, e2, e3⟩ := HP.out k hlt1
        have hsz := HSZ.out _ (getP_mem hlt1)
        have HX := hid (take_next s.P default k hlt1)
        generalize hxx : s.P.getD k default = x at *
        clear hxx
        have j1 : (k : Int) < (m : Int) := by omega
        have j0 : (0 : Int) ≤ (k : Int) := by omega
        have wk : IntKind.i64.wrap ((k : Int) + 1) = ((k + 1 : Nat) : Int) := by rw [IntKind.wrap_i64]; omega
        have C1 := fun W => clone_any x.pack W (by omega)
        obtain ⟨w4, hw4⟩ : ∃ w4, w4 = wr.alloc (.cells #[.string x.pack, .int .i64 x.at_, .int .i64 x.len] 24) := ⟨_, rfl⟩
        obtain ⟨q, hq⟩ : ∃ q, q = wr.heap.size := ⟨_, rfl⟩
        have hb4 : RowKit.Below wr.heap.size wr w4 := by rw [hw4]; exact (RowKit.Below.refl _ _).alloc (Nat.le_refl _) _
        have n4 : Has w4 q #[.string x.pack, .int .i64 x.at_, .int .i64 x.len] 24 := by rw [hw4]; exact Has.new _ _ _ _ hq
        have d0 : w4.cell? ⟨q, 0, none⟩ = some (.string x.pack) := by rw [n4.cell]; rfl
        have HS4 := hid (HS.out.below hb4 HS.out.lt)
        have HP4 := hid (HP.out.below hb4)
        have HB4 := hid (HB.out.trans (hb4.mono HB.out.size))
        have hul : ((s.P.take k).map (·.pack)).length = k := by rw [List.length_map, List.length_take]; omega
        have HPut : Hid (∀ W, RowKit.Below w4.heap.size w4 W → ∃ w', (Instr.mapUpdate 74 (.map (some mb)) (.string x.pack) (.agg #[])).run Tryz.prog W = .ok () w' ∧ SMap w' mb ((s.P.take (k + 1)).map (·.pack)) ∧ W.grownBy w' (some mb)) := hid fun W hW => by
          rw [HX.out, List.map_append]
          exact (HS4.out.below hW HS4.out.lt).put (by rw [hul]; unfold maxLen; omega) _ (by unfold maxLen; omega)
        clear hb4 n4 hul HS HP HB hg hlt1
        go_wp2_with fail
        rw [← hw4, ← hq]
        clear hw4 hq e1 e2 e3
        refine (C1 _).mono ?_
        rintro e w5 ⟨rfl, b5⟩
        obtain ⟨w6, hput, hS6, hgr⟩ := HPut.out w5 b5
        have HS6 := hid hS6
        have HB5 := HB4.out.trans (b5.mono HB4.out.size)
        have HB6 := hid (HB5.grown hgr HB5.size (fun j hj => by cases hj; exact HMB.out))
        have HP5 := HP4.out.below b5
        have HP6 : Hid (Ps w6 (some ⟨g, o, none⟩) s.P) := hid (fun j hj => by
          obtain ⟨g', o', e', h0, h1, h2, h3⟩ := HP5 j hj
          have hne : g' ≠ mb := fun hh => by
            subst hh
            have := HS4.out.below b5 HS4.out.lt
            obtain ⟨D, kk, _, ⟨es, clock, hm2, _⟩, _⟩ := this
            have hh : w5.heap[g']? = some (.map es clock) := hm2
            simp [World.cell?, hh] at h1
          have hbl := hgr.block g' h0 (fun e => hne (by cases e; rfl))
          have hc : ∀ i, w6.cell? ⟨g', i, none⟩ = w5.cell? ⟨g', i, none⟩ := fun i => by unfold World.cell?; rw [hbl]
          exact ⟨g', o', e', Nat.lt_of_lt_of_le h0 hgr.size, by rw [hc]; exact h1, by rw [hc]; exact h2, by rw [hc]; exact h3⟩)
        clear HPut hS6 hgr HB5 HP5 b5 d0 C1 HS4 HP4 HB4
        go_wp2_with fail
        go_roundw
        case rel => exact ⟨k + 1, by omega, by rfl, HS6, HP6, HB6⟩
        case measure => first | (simp [intOf]; done) | (simp [intOf]; omega)
      · obtain rfl : m = k := by omega
        have j1 : ¬ ((m : Int) < (m : Int)) := by omega
        have hS : SMap wr mb (s.P.map (·.pack)) := by
          have := HS.out
          rwa [List.take_of_length_le (by rw [HM.out]; exact Nat.le_refl _)] at this
        have C5 := fun W => keys_any (some mb) W
        have C6 := setKeys_any (L := packsOf (s.C.zip s.P)) hS (packs_rise _) (fun t => packs_mem (by rw [HM.out]; exact HL.out) t) (by rw [← HV.out]; have := HPL.out; omega)
        clear hS HS HP
        go_wp2_with fail
        refine (C5 _).mono ?_
        rintro e w5 ⟨rfl, rfl⟩
        go_wp2_with fail
        refine C6.mono ?_
        rintro e w6 ⟨v, rfl, hrow, hb6⟩
        have HR := hid (own_mono hrow HB.out.size)
        have HB6 := hid (HB.out.trans (hb6.mono HB.out.size))
        clear hrow hb6 C5 C6
        go_wp2_with fail
        exact bodyPost_ret (v := .tuple #[v, .int .i64 0]) (by simp [results, Tryz.results13, go_sem]) rfl ⟨v, by rw [H4.out], by rw [HV.out]; exact HR.out, HB6.out⟩
end Go.Proofs.YtknddbmnciodaaaGreat

