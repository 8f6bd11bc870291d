/- The walk of ShardMakes. -/
import Derived.Test.YtnhakbpalfcmfaaDoorSAwake
import Derived.Test.YtnhakbpalfcmfaaDoorSRRead
import Derived.Test.YtnhakbpalfcmfaaDoorSRParse
namespace Go.Proofs.YtnhakbpalfcmfaaDoor
open Go.RowKit
section
variable {ev : Operand → Value} {o : Oper} {w : World} {x y : Operand}
theorem rn_eqST {u : ByteArray} {t : TypeId} (ho : o.op = .binOp .eql 9 x y t) (hx : ev x = .string u) (hy : ev y = .string u) : (execOp ev o).run Tryd.prog w = .ok (.value (.bool true)) w := by
  simp [execOp, ho, hx, hy, go_sem]
theorem rn_eqBT {u : Bool} {t : TypeId} (ho : o.op = .binOp .eql 4 x y t) (hx : ev x = .bool u) (hy : ev y = .bool u) : (execOp ev o).run Tryd.prog w = .ok (.value (.bool true)) w := by
  simp [execOp, ho, hx, hy, go_sem]
theorem rn_eqIT {u : Int} {t : TypeId} (ho : o.op = .binOp .eql 3 x y t) (hx : ev x = .int .i64 u) (hy : ev y = .int .i64 u) : (execOp ev o).run Tryd.prog w = .ok (.value (.bool true)) w := by
  simp [execOp, ho, hx, hy, go_sem]
end
/-- the memory of ShardMakes: the shard and the object -/
structure SmW (c o : Array Value) (w W : World) : Prop where
  hs : Has W w.heap.size c 25
  ho : Has W (w.heap.size + 1) o 27
  bl : Below w.heap.size w W
theorem SmW.start (w : World) (c o : Array Value) : SmW c o w ((w.alloc (.cells c 25)).alloc (.cells o 27)) := by
  obtain ⟨h1, h2, h3, h4⟩ := two_new w c o 25 27
  exact ⟨h1, h2, h3⟩
theorem SmW.next {c o : Array Value} {w W W' : World} (h : SmW c o w W) (hb : Below W.heap.size W W') : SmW c o w W' :=
  ⟨h.hs.below hb h.hs.lt, h.ho.below hb h.ho.lt, belowCall h.bl hb⟩
theorem SmW.alloc {c o : Array Value} {w W : World} (h : SmW c o w W) (b : Obj) : SmW c o w (W.alloc b) := h.next ((Below.refl _ _).alloc (Nat.le_refl _) _)
/-- what the slots of ShardMakes' last statement hold -/
def sv (n : Nat) (K N : Int) (d : ByteArray) (i : Int) (M D : ByteArray) (I : Int) (B : Bool) : Nat → Value
  | 99 => .string D
  | 100 => .string D
  | 101 => .bool true
  | 102 => .bool true
  | 103 => .int .i64 I
  | 104 => .int .i64 I
  | 105 => .bool true
  | 106 => .bool true
  | 107 => .bool true
  | 108 => .bool B
  | 109 => .bool B
  | 110 => .bool true
  | 111 => .bool true
  | 112 => .bool true
  | 113 => .pointer (some ⟨n, 2, none⟩)
  | 114 => .string d
  | 115 => .pointer (some ⟨n, 3, none⟩)
  | 116 => .int .i64 i
  | 117 => .string M
  | 118 => .pointer (some ⟨n, 2, none⟩)
  | 119 => .string d
  | 120 => .pointer (some ⟨n, 3, none⟩)
  | 121 => .int .i64 i
  | 122 => .string M
  | 123 => .bool true
  | 124 => .bool true
  | 125 => .bool true
  | 126 => .pointer (some ⟨n, 0, none⟩)
  | 127 => .agg #[.int .i64 K, .int .i64 N]
  | 128 => .bool (okC K N)
  | 129 => .pointer (some ⟨n, 0, none⟩)
  | 130 => .agg #[.int .i64 K, .int .i64 N]
  | 131 => .bool (okC K N)
  | 132 => .bool true
  | 133 => .bool true
  | 134 => .bool true
  | 135 => .bool true
  | 136 => .bool true
  | _ => undef
set_option maxRecDepth 20000 in
theorem makes_long (K N : Int) (d : ByteArray) (i : Int) (p a t m : ByteArray) (h : 70000 < p.size ∨ 100 < d.size ∨ 70000 < t.size ∨ 300 < a.size ∨ 300 < m.size) (w : World) (hl : Lay w) :
    Calls Tryd.prog 3 #[.agg (shc K N d i p), obv a t, .string m] w fun e w' => e = .returned (.bool true) ∧ Below w.heap.size w w' := by
  have S0 := SmW.start w (shc K N d i p) #[.string a, .string t]
  have HA : Hid (∀ W, SmW (shc K N d i p) #[.string a, .string t] w W → Calls Tryd.prog 6 #[] W fun e w' => e = .returned (.bool true) ∧ Below W.heap.size W w') := fun W h => awake_any W (hl.below h.bl)
  have hfin := HA.out _ S0
  unfold shc obv
  go_enter Tryd.func3, Tryd.ntmps3
  by_cases h1 : 70000 < p.size
  · have q1 : (70000 : Int) < (p.size : Int) := by omega
    go_wp2_with fail
    refine hfin.mono ?_
    rintro e w1 ⟨rfl, b1⟩
    go_wp2_with fail
    go_ret
    exact ⟨rfl, belowCall S0.bl b1⟩
  have q1 : ¬ (70000 : Int) < (p.size : Int) := by omega
  by_cases h2 : 100 < d.size
  · have q2 : (100 : Int) < (d.size : Int) := by omega
    go_wp2_with fail
    refine hfin.mono ?_
    rintro e w1 ⟨rfl, b1⟩
    go_wp2_with fail
    go_ret
    exact ⟨rfl, belowCall S0.bl b1⟩
  have q2 : ¬ (100 : Int) < (d.size : Int) := by omega
  by_cases h3 : 70000 < t.size
  · have q3 : (70000 : Int) < (t.size : Int) := by omega
    go_wp2_with fail
    refine hfin.mono ?_
    rintro e w1 ⟨rfl, b1⟩
    go_wp2_with fail
    go_ret
    exact ⟨rfl, belowCall S0.bl b1⟩
  have q3 : ¬ (70000 : Int) < (t.size : Int) := by omega
  by_cases h4 : 300 < a.size
  · have q4 : (300 : Int) < (a.size : Int) := by omega
    go_wp2_with fail
    refine hfin.mono ?_
    rintro e w1 ⟨rfl, b1⟩
    go_wp2_with fail
    go_ret
    exact ⟨rfl, belowCall S0.bl b1⟩
  have q4 : ¬ (300 : Int) < (a.size : Int) := by omega
  have q5 : (300 : Int) < (m.size : Int) := by omega
  go_wp2_with fail
  refine hfin.mono ?_
  rintro e w1 ⟨rfl, b1⟩
  go_wp2_with fail
  go_ret
  exact ⟨rfl, belowCall S0.bl b1⟩
set_option maxRecDepth 20000 in
set_option maxHeartbeats 1000000 in
theorem makes_short (K N : Int) (d : ByteArray) (i : Int) (p a t m : ByteArray) (hi0 : -9223372036854775808 ≤ i) (hi1 : i ≤ 9223372036854775807) (h1 : p.size ≤ 70000) (h2 : d.size ≤ 100) (h3 : t.size ≤ 70000) (h4 : a.size ≤ 300) (h5 : m.size ≤ 300) (w : World) (hl : Lay w) :
    Calls Tryd.prog 3 #[.agg (shc K N d i p), obv a t, .string m] w fun e w' => e = .returned (.bool true) ∧ Below w.heap.size w w' := by
  have S0 := SmW.start w (shc K N d i p) #[.string a, .string t]
  have q1 : ¬ (70000 : Int) < (p.size : Int) := by omega
  have q2 : ¬ (100 : Int) < (d.size : Int) := by omega
  have q3 : ¬ (70000 : Int) < (t.size : Int) := by omega
  have q4 : ¬ (300 : Int) < (a.size : Int) := by omega
  have q5 : ¬ (300 : Int) < (m.size : Int) := by omega
  obtain ⟨X, Y, E, HM, HM'⟩ : ∃ X Y E, Hid (∀ w, Lay w → Calls Tryd.prog 7 #[.agg (shc K N d i p)] w fun e w' => e = .returned (.tuple #[.agg #[.string X, .string Y], .int .i64 E]) ∧ Below w.heap.size w w') ∧ Hid (∀ w, Calls Tryd.prog 8 #[.agg (shc K N d i p)] w fun e w' => e = .returned (.tuple #[.agg #[.string X, .string Y], .int .i64 E]) ∧ Below w.heap.size w w') :=
    ⟨mkN K N d i p, mkD K N d i p, mkE K N d i p, fun w hl => make_any K N d i p w hl, fun w => refMake_any K N d i p w⟩
  obtain ⟨K', N', d', i', p', E', HR, HR'⟩ : ∃ K' N' d' i' p' E', Hid (∀ w, Lay w → Calls Tryd.prog 9 #[.agg #[.string a, .string t]] w fun e w' => e = .returned (.tuple #[.agg (shc K' N' d' i' p'), .int .i64 E']) ∧ Below w.heap.size w w') ∧ Hid (∀ w, Calls Tryd.prog 10 #[.agg #[.string a, .string t]] w fun e w' => e = .returned (.tuple #[.agg (shc K' N' d' i' p'), .int .i64 E']) ∧ Below w.heap.size w w') :=
    ⟨_, _, _, _, _, _, fun w hl => by have := read_any a t w hl; rw [rdV_eq] at this; exact this, fun w => by have := refRead_any a t (by omega) w; rw [rdV_eq] at this; exact this⟩
  obtain ⟨D, I, B, HP, HP'⟩ : ∃ D I B, Hid (∀ w, Lay w → Calls Tryd.prog 11 #[.string m] w fun e w' => e = .returned (.tuple #[.string D, .int .i64 I, .bool B]) ∧ Below w.heap.size w w') ∧ Hid (∀ w, Calls Tryd.prog 12 #[.string m] w fun e w' => e = .returned (.tuple #[.string D, .int .i64 I, .bool B]) ∧ Below w.heap.size w w') := by
    obtain ⟨D, I, B, hP⟩ : ∃ D I B, PAns m (.returned (.tuple #[.string D, .int .i64 I, .bool B])) := by
      by_cases h : ∃ d i, IsN m d i
      · obtain ⟨d, i, h⟩ := h; exact ⟨d, i, true, .inl ⟨d, i, h, rfl⟩⟩
      · exact ⟨⟨#[]⟩, 0, false, .inr ⟨h, rfl⟩⟩
    exact ⟨D, I, B, fun w hl => (parse_any m w hl).mono fun e w' h => ⟨PAns.one h.1 hP, h.2⟩, fun w => (refParse_any m (by omega) w).mono fun e w' h => ⟨PAns.one h.1 hP, h.2⟩⟩
  obtain ⟨M, HN, HN'⟩ : ∃ M, Hid (∀ w, Lay w → Calls Tryd.prog 13 #[.string d, .int .i64 i] w fun e w' => e = .returned (.string M) ∧ Below w.heap.size w w') ∧ Hid (∀ w, Calls Tryd.prog 14 #[.string d, .int .i64 i] w fun e w' => e = .returned (.string M) ∧ Below w.heap.size w w') :=
    ⟨_, fun w hl => name_any d i (by omega) hi0 hi1 w hl, fun w => refName_any d i (by omega) hi0 hi1 w⟩
  unfold shc obv
  go_enter Tryd.func3, Tryd.ntmps3
  go_wp2_with fail
  refine (HM.out _ (hl.below S0.bl)).mono ?_
  rintro e w1 ⟨rfl, b1⟩
  have S1 := S0.next b1
  clear b1 HM S0
  obtain ⟨c0, c1, c2, c3, c4⟩ := shc_cells (S1.alloc (.cells #[.string X, .string Y] 27)).hs
  go_wp2_with fail
  refine (HM'.out _).mono ?_
  rintro e w2 ⟨rfl, b2⟩
  have S2 := (S1.alloc _).next b2
  have O1 : Has w2 w1.heap.size #[.string X, .string Y] 27 := (Has.new w1 _ _ _ rfl).below b2 (by simp)
  clear b2 HM' S1 c0 c1 c2 c3 c4
  have o0 := (obj_cells (S2.alloc (.cells #[.string X, .string Y] 27)).ho).1
  have o1 := (obj_cells (S2.alloc (.cells #[.string X, .string Y] 27)).ho).2.1
  go_wp2_with fail
  refine (HR.out _ (hl.below (S2.alloc _).bl)).mono ?_
  rintro e w3 ⟨rfl, b3⟩
  have S3 := (S2.alloc _).next b3
  have O2 : Has w3 w1.heap.size #[.string X, .string Y] 27 := (O1.alloc _).below b3 (O1.alloc _).lt
  have P2 : Has w3 w2.heap.size #[.string X, .string Y] 27 := (Has.new w2 _ _ _ rfl).below b3 (by simp)
  clear b3 HR S2 O1 o0 o1
  unfold shc
  have o0 := (obj_cells (S3.alloc (.cells (shc K' N' d' i' p') 25)).ho).1
  have o1 := (obj_cells (S3.alloc (.cells (shc K' N' d' i' p') 25)).ho).2.1
  unfold shc at o0 o1
  go_wp2_with fail
  refine (HR'.out _).mono ?_
  rintro e w4 ⟨rfl, b4⟩
  have S4 := (S3.alloc _).next b4
  have O3 : Has w4 w1.heap.size #[.string X, .string Y] 27 := (O2.alloc _).below b4 (O2.alloc _).lt
  have P3 : Has w4 w2.heap.size #[.string X, .string Y] 27 := (P2.alloc _).below b4 (P2.alloc _).lt
  have Q3 : Has w4 w3.heap.size (shc K' N' d' i' p') 25 := (Has.new w3 _ _ _ rfl).below b4 (by simp)
  clear b4 HR' S3 O2 P2 o0 o1
  have r0 := fun o => (obj_cells (O3.alloc o)).1
  have r1 := fun o => (obj_cells (O3.alloc o)).2.1
  have r2 := fun o => (obj_cells (P3.alloc o)).1
  have r3 := fun o => (obj_cells (P3.alloc o)).2.1
  have s0 := fun o => (shc_cells (Q3.alloc o)).1
  have s1 := fun o => (shc_cells (Q3.alloc o)).2.1
  have s2 := fun o => (shc_cells (Q3.alloc o)).2.2.1
  have s3 := fun o => (shc_cells (Q3.alloc o)).2.2.2.1
  have s4 := fun o => (shc_cells (Q3.alloc o)).2.2.2.2
  unfold shc
  go_wp2_with fail
  refine (HP.out _ (hl.below (S4.alloc _).bl)).mono ?_
  rintro e w5 ⟨rfl, b5⟩
  have S5 := (S4.alloc _).next b5
  clear b5 HP S4 O3 P3 Q3 r0 r1 r2 r3 s0 s1 s2 s3 s4
  go_wp2_with fail
  refine (HP'.out _).mono ?_
  rintro e w6 ⟨rfl, b6⟩
  have S6 := S5.next b6
  clear b6 HP' S5
  go_wp2_with fail
  refine Tl.wp_tail_lit (by kernel_rfl) 38 [99, 100, 101, 102, 103, 104, 105, 106, 107, 108, 109, 110, 111, 112, 113, 114, 115, 116, 117, 118, 119, 120, 121, 122, 123, 124, 125, 126, 127, 128, 129, 130, 131, 132, 133, 134, 135, 136] 137 rfl (by kernel_rfl) (SmW (shc K N d i p) #[.string a, .string t] w) (fun s v _ => v = sv w.heap.size K N d i M D I B s) (fun _ _ _ _ h _ => h) ⟨S6.hs.drew, S6.ho.drew, S6.bl.drew⟩
    ⟨fun a' W' hC hF => ?_, fun a' W' hC hF => ?_, fun a' W' hC hF => ?_, fun a' W' hC hF => ?_, fun a' W' hC hF => ?_, fun a' W' hC hF => ?_, fun a' W' hC hF => ?_, fun a' W' hC hF => ?_, fun a' W' hC hF => ?_, fun a' W' hC hF => ?_, fun a' W' hC hF => ?_, fun a' W' hC hF => ?_, fun a' W' hC hF => ?_, fun a' W' hC hF => ?_, fun a' W' hC hF => ?_, fun a' W' hC hF => ?_, fun a' W' hC hF => ?_, fun a' W' hC hF => ?_, fun a' W' hC hF => ?_, fun a' W' hC hF => ?_, fun a' W' hC hF => ?_, fun a' W' hC hF => ?_, fun a' W' hC hF => ?_, fun a' W' hC hF => ?_, fun a' W' hC hF => ?_, fun a' W' hC hF => ?_, fun a' W' hC hF => ?_, fun a' W' hC hF => ?_, fun a' W' hC hF => ?_, fun a' W' hC hF => ?_, fun a' W' hC hF => ?_, fun a' W' hC hF => ?_, fun a' W' hC hF => ?_, fun a' W' hC hF => ?_, fun a' W' hC hF => ?_, fun a' W' hC hF => ?_, fun a' W' hC hF => ?_, fun a' W' hC hF => ?_, trivial⟩ ?_
  · exact Tl.st_val 99 _ rfl (Tl.wanted_none rfl) (rn_move rfl ((hF 15 (by decide +kernel)).2 (by decide))) hC (Below.refl _ _) rfl
  · exact Tl.st_val 100 _ rfl (Tl.wanted_none rfl) (rn_move rfl ((hF 18 (by decide +kernel)).2 (by decide))) hC (Below.refl _ _) rfl
  · exact Tl.st_val 101 _ rfl (Tl.wanted_none rfl) (rn_eqST rfl ((hF 99 (by decide +kernel)).1 (by decide)) ((hF 100 (by decide +kernel)).1 (by decide))) hC (Below.refl _ _) rfl
  · exact Tl.st_val 102 _ rfl (Tl.wanted_none rfl) (rn_move rfl ((hF 101 (by decide +kernel)).1 (by decide))) hC (Below.refl _ _) rfl
  · exact Tl.st_val 103 _ rfl (Tl.wanted_is (g := 3) rfl rfl ((hF 102 (by decide +kernel)).1 (by decide))) (rn_move rfl ((hF 16 (by decide +kernel)).2 (by decide))) hC (Below.refl _ _) rfl
  · exact Tl.st_val 104 _ rfl (Tl.wanted_is (g := 3) rfl rfl ((hF 102 (by decide +kernel)).1 (by decide))) (rn_move rfl ((hF 19 (by decide +kernel)).2 (by decide))) hC (Below.refl _ _) rfl
  · exact Tl.st_val 105 _ rfl (Tl.wanted_is (g := 3) rfl rfl ((hF 102 (by decide +kernel)).1 (by decide))) (rn_eqIT rfl ((hF 103 (by decide +kernel)).1 (by decide)) ((hF 104 (by decide +kernel)).1 (by decide))) hC (Below.refl _ _) rfl
  · exact Tl.st_val 106 _ rfl (Tl.wanted_none rfl) (rn_pickT rfl ((hF 102 (by decide +kernel)).1 (by decide)) ((hF 105 (by decide +kernel)).1 (by decide))) hC (Below.refl _ _) rfl
  · exact Tl.st_val 107 _ rfl (Tl.wanted_none rfl) (rn_move rfl ((hF 106 (by decide +kernel)).1 (by decide))) hC (Below.refl _ _) rfl
  · exact Tl.st_val 108 _ rfl (Tl.wanted_is (g := 8) rfl rfl ((hF 107 (by decide +kernel)).1 (by decide))) (rn_move rfl ((hF 17 (by decide +kernel)).2 (by decide))) hC (Below.refl _ _) rfl
  · exact Tl.st_val 109 _ rfl (Tl.wanted_is (g := 8) rfl rfl ((hF 107 (by decide +kernel)).1 (by decide))) (rn_move rfl ((hF 20 (by decide +kernel)).2 (by decide))) hC (Below.refl _ _) rfl
  · exact Tl.st_val 110 _ rfl (Tl.wanted_is (g := 8) rfl rfl ((hF 107 (by decide +kernel)).1 (by decide))) (rn_eqBT rfl ((hF 108 (by decide +kernel)).1 (by decide)) ((hF 109 (by decide +kernel)).1 (by decide))) hC (Below.refl _ _) rfl
  · exact Tl.st_val 111 _ rfl (Tl.wanted_none rfl) (rn_pickT rfl ((hF 107 (by decide +kernel)).1 (by decide)) ((hF 110 (by decide +kernel)).1 (by decide))) hC (Below.refl _ _) rfl
  · exact Tl.st_val 112 _ rfl (Tl.wanted_none rfl) (rn_move rfl ((hF 111 (by decide +kernel)).1 (by decide))) hC (Below.refl _ _) rfl
  · exact Tl.st_val 113 _ rfl (Tl.wanted_is (g := 13) rfl rfl ((hF 112 (by decide +kernel)).1 (by decide))) (rn_f25_1 rfl ((hF 3 (by decide +kernel)).2 (by decide))) hC (Below.refl _ _) rfl
  · exact Tl.st_val 114 _ rfl (Tl.wanted_is (g := 13) rfl rfl ((hF 112 (by decide +kernel)).1 (by decide))) (rn_load9 rfl ((hF 113 (by decide +kernel)).1 (by decide)) (shc_cells hC.hs).2.2.1) hC (Below.refl _ _) rfl
  · exact Tl.st_val 115 _ rfl (Tl.wanted_is (g := 13) rfl rfl ((hF 112 (by decide +kernel)).1 (by decide))) (rn_f25_2 rfl ((hF 3 (by decide +kernel)).2 (by decide))) hC (Below.refl _ _) rfl
  · exact Tl.st_val 116 _ rfl (Tl.wanted_is (g := 13) rfl rfl ((hF 112 (by decide +kernel)).1 (by decide))) (rn_load3 rfl ((hF 115 (by decide +kernel)).1 (by decide)) (shc_cells hC.hs).2.2.2.1) hC (Below.refl _ _) rfl
  · exact Tl.st_call 117 13 _ rfl (Tl.wanted_is (g := 13) rfl rfl ((hF 112 (by decide +kernel)).1 (by decide))) (rn_call2 rfl rfl ((hF 114 (by decide +kernel)).1 (by decide)) ((hF 116 (by decide +kernel)).1 (by decide)) (enter13 _)) ((HN.out W' (hl.below hC.bl)).mono fun e w'' h => ⟨_, h.1, hC.next h.2, h.2, rfl⟩)
  · exact Tl.st_val 118 _ rfl (Tl.wanted_is (g := 13) rfl rfl ((hF 112 (by decide +kernel)).1 (by decide))) (rn_f25_1 rfl ((hF 3 (by decide +kernel)).2 (by decide))) hC (Below.refl _ _) rfl
  · exact Tl.st_val 119 _ rfl (Tl.wanted_is (g := 13) rfl rfl ((hF 112 (by decide +kernel)).1 (by decide))) (rn_load9 rfl ((hF 118 (by decide +kernel)).1 (by decide)) (shc_cells hC.hs).2.2.1) hC (Below.refl _ _) rfl
  · exact Tl.st_val 120 _ rfl (Tl.wanted_is (g := 13) rfl rfl ((hF 112 (by decide +kernel)).1 (by decide))) (rn_f25_2 rfl ((hF 3 (by decide +kernel)).2 (by decide))) hC (Below.refl _ _) rfl
  · exact Tl.st_val 121 _ rfl (Tl.wanted_is (g := 13) rfl rfl ((hF 112 (by decide +kernel)).1 (by decide))) (rn_load3 rfl ((hF 120 (by decide +kernel)).1 (by decide)) (shc_cells hC.hs).2.2.2.1) hC (Below.refl _ _) rfl
  · exact Tl.st_call 122 14 _ rfl (Tl.wanted_is (g := 13) rfl rfl ((hF 112 (by decide +kernel)).1 (by decide))) (rn_call2 rfl rfl ((hF 119 (by decide +kernel)).1 (by decide)) ((hF 121 (by decide +kernel)).1 (by decide)) (enter14 _)) ((HN'.out W').mono fun e w'' h => ⟨_, h.1, hC.next h.2, h.2, rfl⟩)
  · exact Tl.st_val 123 _ rfl (Tl.wanted_is (g := 13) rfl rfl ((hF 112 (by decide +kernel)).1 (by decide))) (rn_eqST rfl ((hF 117 (by decide +kernel)).1 (by decide)) ((hF 122 (by decide +kernel)).1 (by decide))) hC (Below.refl _ _) rfl
  · exact Tl.st_val 124 _ rfl (Tl.wanted_none rfl) (rn_pickT rfl ((hF 112 (by decide +kernel)).1 (by decide)) ((hF 123 (by decide +kernel)).1 (by decide))) hC (Below.refl _ _) rfl
  · exact Tl.st_val 125 _ rfl (Tl.wanted_none rfl) (rn_move rfl ((hF 124 (by decide +kernel)).1 (by decide))) hC (Below.refl _ _) rfl
  · exact Tl.st_val 126 _ rfl (Tl.wanted_is (g := 26) rfl rfl ((hF 125 (by decide +kernel)).1 (by decide))) (rn_f25_0 rfl ((hF 3 (by decide +kernel)).2 (by decide))) hC (Below.refl _ _) rfl
  · exact Tl.st_val 127 _ rfl (Tl.wanted_is (g := 26) rfl rfl ((hF 125 (by decide +kernel)).1 (by decide))) (rn_load23 rfl ((hF 126 (by decide +kernel)).1 (by decide)) hC.hs) hC (Below.refl _ _) rfl
  · exact Tl.st_call 128 15 _ rfl (Tl.wanted_is (g := 26) rfl rfl ((hF 125 (by decide +kernel)).1 (by decide))) (rn_call1 rfl rfl ((hF 127 (by decide +kernel)).1 (by decide)) (enter15 _)) ((code_any K N W').mono fun e w'' h => ⟨_, h.1, hC.next h.2, h.2, rfl⟩)
  · exact Tl.st_val 129 _ rfl (Tl.wanted_is (g := 26) rfl rfl ((hF 125 (by decide +kernel)).1 (by decide))) (rn_f25_0 rfl ((hF 3 (by decide +kernel)).2 (by decide))) hC (Below.refl _ _) rfl
  · exact Tl.st_val 130 _ rfl (Tl.wanted_is (g := 26) rfl rfl ((hF 125 (by decide +kernel)).1 (by decide))) (rn_load23 rfl ((hF 129 (by decide +kernel)).1 (by decide)) hC.hs) hC (Below.refl _ _) rfl
  · exact Tl.st_call 131 16 _ rfl (Tl.wanted_is (g := 26) rfl rfl ((hF 125 (by decide +kernel)).1 (by decide))) (rn_call1 rfl rfl ((hF 130 (by decide +kernel)).1 (by decide)) (enter16 _)) ((refCode_any K N W').mono fun e w'' h => ⟨_, h.1, hC.next h.2, h.2, rfl⟩)
  · exact Tl.st_val 132 _ rfl (Tl.wanted_is (g := 26) rfl rfl ((hF 125 (by decide +kernel)).1 (by decide))) (rn_eqBT rfl ((hF 128 (by decide +kernel)).1 (by decide)) ((hF 131 (by decide +kernel)).1 (by decide))) hC (Below.refl _ _) rfl
  · exact Tl.st_val 133 _ rfl (Tl.wanted_none rfl) (rn_pickT rfl ((hF 125 (by decide +kernel)).1 (by decide)) ((hF 132 (by decide +kernel)).1 (by decide))) hC (Below.refl _ _) rfl
  · exact Tl.st_val 134 _ rfl (Tl.wanted_none rfl) (rn_move rfl ((hF 133 (by decide +kernel)).1 (by decide))) hC (Below.refl _ _) rfl
  · exact Tl.st_call 135 6 _ rfl (Tl.wanted_is (g := 35) rfl rfl ((hF 134 (by decide +kernel)).1 (by decide))) (rn_call0 rfl rfl  (enter6 _)) ((awake_any W' (hl.below hC.bl)).mono fun e w'' h => ⟨_, h.1, hC.next h.2, h.2, rfl⟩)
  · exact Tl.st_val 136 _ rfl (Tl.wanted_none rfl) (rn_pickT rfl ((hF 134 (by decide +kernel)).1 (by decide)) ((hF 135 (by decide +kernel)).1 (by decide))) hC (Below.refl _ _) rfl
  · intro v W' hC hv
    have v136 : v 136 = .bool true := hv 136 (by decide)
    simp only [Tl.fill, v136]
    go_wp2_with fail
    go_ret
    exact ⟨rfl, hC.bl⟩
end Go.Proofs.YtnhakbpalfcmfaaDoor
