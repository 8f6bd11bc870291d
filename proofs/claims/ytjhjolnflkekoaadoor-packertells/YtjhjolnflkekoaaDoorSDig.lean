/- The contracts of the document's digits, products and comparisons. -/
import Derived.Test.YtjhjolnflkekoaaDoorSNum
import Derived.Deep.QuietTactic
import Derived.BigQuiet
namespace Go.Proofs.YtjhjolnflkekoaaDoor.S
open Go.RowKit
def U64s (b : List Nat) : Array Value := (b.map fun x : Nat => Value.int .u64 (x : Int)).toArray
theorem U64s_size (b : List Nat) : (U64s b).size = b.length := by simp [U64s]
theorem U64s_get (b : List Nat) (i : Nat) (h : i < b.length) : (U64s b)[i]? = some (.int .u64 ((b.getD i 0 : Nat) : Int)) := by
  simp [U64s, List.getD_eq_getElem?_getD, List.getElem?_eq_getElem h]
theorem U64s_set (b : List Nat) (i x : Nat) : (U64s b).setIfInBounds i (.int .u64 (x : Int)) = U64s (b.set i x) := by
  simp [U64s, List.map_set]
/-- a list that lies in a block from its first cell on -/
def Lies (w : World) (v : Value) (cs : Array Value) (t : TypeId) : Prop := ∃ g cap, v = .slice (some ⟨g, 0, none⟩) cs.size cap ∧ Has w g cs t
theorem Lies.below {w w' : World} {v : Value} {cs : Array Value} {t : TypeId} (h : Lies w v cs t) (hb : Below w.heap.size w w') : Lies w' v cs t := by
  obtain ⟨g, cap, h1, h2⟩ := h
  exact ⟨g, cap, h1, h2.below hb h2.lt⟩
theorem wrap_u64_nat (n : Nat) : IntKind.u64.wrap (n : Int) = ((n % 18446744073709551616 : Nat) : Int) := by
  rw [IntKind.wrap_u64]; omega
theorem vEq (x y z c : Nat) : IntKind.u64.wrap (IntKind.u64.wrap ((x : Int) + IntKind.u64.wrap ((y : Int) * (z : Int))) + (c : Int)) = ((((x + y * z % 18446744073709551616) % 18446744073709551616 + c) % 18446744073709551616 : Nat) : Int) := by
  rw [← Int.natCast_mul, wrap_u64_nat, ← Int.natCast_add, wrap_u64_nat, ← Int.natCast_add, wrap_u64_nat]
theorem tmodN (n : Nat) : ((n : Nat) : Int).tmod 65536 = ((n % 65536 : Nat) : Int) := by
  rw [Int.tmod_eq_emod_of_nonneg (by omega)]; omega
theorem tdivN (n : Nat) (h : n < 18446744073709551616) : IntKind.u64.wrap (((n : Nat) : Int).tdiv 65536) = ((n / 65536 : Nat) : Int) := by
  rw [Int.tdiv_eq_ediv_of_nonneg (by omega), IntKind.wrap_u64]; omega
theorem Has.drews {w : World} {b : Nat} {cs : Array Value} {t : TypeId} (h : Has w b cs t) (n : Nat) : Has (w.drewN n) b cs t := h
set_option maxRecDepth 20000 in
theorem digits_any (n : Nat) (hn : n < 18446744073709551616) (w : World) :
    Calls Tryd.prog 62 #[.int .u64 (n : Int)] w fun e w' => ∃ v, e = .returned v ∧ Lies w' v (U64s (Ref.dg n)) 84 ∧ Below w.heap.size w w' := by
  go_enter Tryd.func62, Tryd.ntmps62
  go_wp2_with fail
  go_ret
  refine ⟨_, rfl, ⟨_, 4, rfl, ?_⟩, (Below.refl _ _).alloc (Nat.le_refl _) _⟩
  have e : U64s (Ref.dg n) = #[Value.int .u64 ((n : Int) % 65536), .int .u64 ((n : Int) / 65536 % 65536), .int .u64 ((n : Int) / 65536 / 65536 % 65536), .int .u64 ((n : Int) / 65536 / 65536 / 65536)] := by simp [U64s, Ref.dg]
  rw [e]
  exact Has.new _ _ _ _ rfl
theorem makes_u64 (n : Nat) (hn : n ≤ 1000000) (w : World) : (Instr.makeSlice 101 (.int .i64 (n : Int)) (.int .i64 (n : Int))).run Tryd.prog w = .ok (.slice (some ⟨w.heap.size, 0, none⟩) n n) (w.alloc (.cells (U64s (List.replicate n 0)) 84)) := by
  have hinfo : (Tryd.prog.info? 84).map (fun i => (i.zero, i.size, i.bytes)) = some (some (.int .u64 0), 1, 8) := by kernel_rfl
  cases hi : Tryd.prog.info? 84 with
  | none => rw [hi] at hinfo; simp at hinfo
  | some i =>
    rw [hi] at hinfo
    simp only [Option.map_some, Option.some.injEq, Prod.mk.injEq] at hinfo
    obtain ⟨h1, h2, h3⟩ := hinfo
    rw [run_make w 101 84 i (.int .u64 0) Tryd.underlying101 hi h1 .i64 .i64 (n : Int) (n : Int) (by omega) (Int.le_refl _) (by rw [h3]; omega) (by omega)]
    have e : madeCells (Value.int .u64 0).cells (n * 1) = U64s (List.replicate n 0) := by
      apply Array.toList_inj.1
      have hz : (Value.int .u64 0).cells = #[.int .u64 0] := rfl
      rw [hz, Nat.mul_one]
      apply List.ext_getElem
      · simp [madeCells, U64s]
      · intro k h1 h2
        simp [madeCells, U64s, Nat.mod_one]
    rw [h2, Int.toNat_natCast, e]
set_option maxRecDepth 20000 in
set_option maxHeartbeats 1000000 in
theorem times_any (a b : List Nat) (ha : a.length ≤ 100) (hb : b.length ≤ 100) (va vb : Value) (w : World) (la : Lies w va (U64s a) 84) (lb : Lies w vb (U64s b) 84) :
    Calls Tryd.prog 63 #[va, vb] w fun e w' => ∃ v, e = .returned v ∧ Lies w' v (U64s (Ref.tms a b)) 84 ∧ Below w.heap.size w w' := by
  obtain ⟨ga, ca, rfl, hA⟩ := la
  obtain ⟨gb, cb, rfl, hB⟩ := lb
  have hmk : ∀ w, (Instr.makeSlice 101 (.int .i64 ((a.length : Int) + (b.length : Int))) (.int .i64 ((a.length : Int) + (b.length : Int)))).run Tryd.prog w = .ok (.slice (some ⟨w.heap.size, 0, none⟩) (a.length + b.length) (a.length + b.length)) (w.alloc (.cells (U64s (List.replicate (a.length + b.length) 0)) 84)) := fun w => by
    rw [← Int.natCast_add]; exact makes_u64 (a.length + b.length) (by omega) w
  have za := U64s_size a
  have zb := U64s_size b
  rw [za, zb]
  clear za zb
  go_enter Tryd.func63, Tryd.ntmps63
  go_wp2_with fail
  go_loopw [6] (fun vi wr => ∃ i : Nat, i ≤ a.length ∧ vi = .int .i64 (i : Int) ∧ Has wr w.heap.size (U64s (Ref.outer a b i)) 84 ∧ Below w.heap.size w wr) (fun vi _ => a.length - (intOf vi).toNat)
  case atStart => exact ⟨0, by omega, rfl, Has.new _ _ _ _ rfl, (Below.refl _ _).alloc (Nat.le_refl _) _⟩
  case round =>
    clear hmk
    obtain ⟨i, hi, rfl, h1, b1⟩ := hrel
    by_cases hlt : i < a.length
    · have i0 : (i : Int) < (a.length : Int) := by omega
      have hol := Ref.outer_length a b i
      have HO : Hid (Ref.outer a b (i + 1) = (Ref.inn (a.getD i 0) b i (Ref.outer a b i) b.length).1.set (i + b.length) (((Ref.inn (a.getD i 0) b i (Ref.outer a b i) b.length).1.getD (i + b.length) 0 + (Ref.inn (a.getD i 0) b i (Ref.outer a b i) b.length).2) % 18446744073709551616)) := rfl
      have HI : Hid (∀ k, Ref.inn (a.getD i 0) b i (Ref.outer a b i) (k + 1) = ((Ref.inn (a.getD i 0) b i (Ref.outer a b i) k).1.set (i + k) ((((Ref.inn (a.getD i 0) b i (Ref.outer a b i) k).1.getD (i + k) 0 + a.getD i 0 * b.getD k 0 % 18446744073709551616) % 18446744073709551616 + (Ref.inn (a.getD i 0) b i (Ref.outer a b i) k).2) % 18446744073709551616 % 65536), (((Ref.inn (a.getD i 0) b i (Ref.outer a b i) k).1.getD (i + k) 0 + a.getD i 0 * b.getD k 0 % 18446744073709551616) % 18446744073709551616 + (Ref.inn (a.getD i 0) b i (Ref.outer a b i) k).2) % 18446744073709551616 / 65536)) := fun k => rfl
      have HN : Hid (Ref.inn (a.getD i 0) b i (Ref.outer a b i) 0 = (Ref.outer a b i, 0)) := rfl
      have HL : Hid (∀ k, (Ref.inn (a.getD i 0) b i (Ref.outer a b i) k).1.length = a.length + b.length) := fun k => by rw [Ref.inn_length, hol]
      generalize hq : Ref.inn (a.getD i 0) b i (Ref.outer a b i) = q at *
      have hq' : Hid _ := hq
      clear hq
      go_wp2_with fail
      go_loopw [7, 8] (fun vc vk wr' => ∃ k : Nat, k ≤ b.length ∧ vk = .int .i64 (k : Int) ∧ vc = .int .u64 (((q k).2 : Nat) : Int) ∧ Has wr' w.heap.size (U64s (q k).1) 84 ∧ Below w.heap.size w wr') (fun _ vk _ => b.length - (intOf vk).toNat)
      case atStart => exact ⟨0, by omega, rfl, by rw [HN.out]; rfl, by rw [HN.out]; exact h1, b1⟩
      case round =>
        clear h1 b1
        obtain ⟨k, hk, rfl, rfl, h1, b1⟩ := hrel
        have hql := HL.out k
        by_cases hkt : k < b.length
        · have k0 : (k : Int) < (b.length : Int) := by omega
          have s0 : (i : Int) + (k : Int) < (a.length : Int) + (b.length : Int) := by omega
          have s1 : (0 : Int) ≤ (i : Int) + (k : Int) := by omega
          have s2 : ((i : Int) + (k : Int)).toNat = i + k := by omega
          have cO := (h1.cell (i + k)).trans (U64s_get _ _ (by rw [hql]; omega))
          have fO := h1.frozen (i + k)
          have cA := ((hA.below b1 hA.lt).cell i).trans (U64s_get _ _ hlt)
          have cB := ((hB.below b1 hB.lt).cell k).trans (U64s_get _ _ hkt)
          have HK := HI.out k
          generalize (q k).1.getD (i + k) 0 = x at *
          generalize a.getD i 0 = y at *
          generalize b.getD k 0 = z at *
          generalize hc : (q k).2 = c at *
          go_wp2_with fail
          go_quiet (fail)
          go_wp2_with fail
          have hV := vEq x y z c
          have hVl : ((x + y * z % 18446744073709551616) % 18446744073709551616 + c) % 18446744073709551616 < 18446744073709551616 := Nat.mod_lt _ (by decide)
          generalize ((x + y * z % 18446744073709551616) % 18446744073709551616 + c) % 18446744073709551616 = V at *
          rw [hV, tmodN, tdivN V hVl]
          have h2 := (h1.drews nq).set (i + k) (.int .u64 ((V % 65536 : Nat) : Int))
          rw [U64s_set] at h2
          exact ⟨⟨k + 1, by omega, rfl, by rw [HK], by rw [HK]; exact h2, (below_draws b1 nq).setCell (Nat.le_refl _) _⟩, by simp [intOf]; omega⟩
        · obtain rfl : k = b.length := by omega
          have s0 : (i : Int) + (b.length : Int) < (a.length : Int) + (b.length : Int) := by omega
          have s1 : (0 : Int) ≤ (i : Int) + (b.length : Int) := by omega
          have s2 : ((i : Int) + (b.length : Int)).toNat = i + b.length := by omega
          have cO := (h1.cell (i + b.length)).trans (U64s_get _ _ (by rw [hql]; omega))
          have fO := h1.frozen (i + b.length)
          have HK := HO.out
          clear HI HN HL HO
          generalize (q b.length).1.getD (i + b.length) 0 = x at *
          generalize (q b.length).2 = c at *
          have hV : Hid (IntKind.u64.wrap ((x : Int) + (c : Int)) = (((x + c) % 18446744073709551616 : Nat) : Int)) := by unfold Hid; rw [← Int.natCast_add, wrap_u64_nat]
          have h2 := h1.set (i + b.length) (.int .u64 (((x + c) % 18446744073709551616 : Nat) : Int))
          rw [U64s_set, ← HK] at h2
          have HF : Hid _ := h2
          clear h2 HK
          go_wp2_with fail
          rw [hV.out]
          exact ⟨⟨i + 1, by omega, rfl, HF.out, b1.setCell (Nat.le_refl _) _⟩, by simp [intOf]; omega⟩
    · obtain rfl : i = a.length := by omega
      go_wp2_with fail
      go_ret
      exact ⟨_, rfl, ⟨_, _, by rw [U64s_size, Ref.tms_length]; rfl, h1⟩, b1⟩
end Go.Proofs.YtjhjolnflkekoaaDoor.S
