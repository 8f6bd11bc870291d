/- Quorum: the iterator that tells those that answer; how many they are. -/
import Derived.Test.YtmpgfpmkmgebdaaGreatDoorP6
import Derived.Test.YtmpgfpmkmgebdaaGreatDoorWCrash
namespace Go.Proofs.YtmpgfpmkmgebdaaGreatDoor
open Go.RowKit Go.Maps
open W
set_option linter.unusedVariables false
/-- what a round is handed: a store's number -/
abbrev Sn (n : Nat) := { p : Nat // p < n }
def snN {n : Nat} (x : Sn n) : Nat := x.1
def snV (g : Nat) {n : Nat} (x : Sn n) : Array Value := #[.int .i64 (x.1 : Int), .pointer (some ⟨g, x.1 * 13, none⟩)]
def idxF : Nat → List Bool → List Nat
  | _, [] => []
  | i, x :: r => (if x then [i] else []) ++ idxF (i + 1) r
theorem idx_idxF : ∀ (i : Nat) (l : List Hd), idx i l = idxF i (l.map (·.ans))
  | _, [] => rfl
  | i, h :: t => by
    unfold idx
    rw [List.map_cons]
    unfold idxF
    rw [← idx_idxF (i + 1) t]
    split <;> rfl
theorem idxF_take (l : List Bool) : ∀ (k : Nat) (i : Nat) (x : Bool), l[k]? = some x → idxF i (l.take (k + 1)) = idxF i (l.take k) ++ (if x then [i + k] else []) := by
  induction l with
  | nil => intro k i x h; simp at h
  | cons y r ih =>
    intro k i x h
    cases k with
    | zero =>
      simp at h; subst h
      show idxF i [y] = idxF i [] ++ _
      simp [idxF]
    | succ k =>
      have := ih k (i + 1) x (by simpa using h)
      show idxF i (y :: r.take (k + 1)) = idxF i (y :: r.take k) ++ _
      unfold idxF
      rw [this, show i + 1 + k = i + (k + 1) by omega, List.append_assoc]
theorem idxF_pre (l : List Bool) (i k : Nat) : idxF i (l.take k) <+: idxF i l := by
  induction l generalizing i k with
  | nil => simp [idxF]
  | cons y r ih =>
    cases k with
    | zero => simp [idxF]
    | succ k =>
      show idxF i (y :: r.take k) <+: idxF i (y :: r)
      unfold idxF
      exact List.prefix_append_right_inj _ |>.2 (ih (i + 1) k)
/-- which of the list answer -/
def Flags (W : World) (g : Nat) (fl : List Bool) : Prop := ∃ l, AllAt W g l ∧ l.map (·.ans) = fl
/-- nothing has turned but blocks of T, and the same answer -/
def Rel (T : Nat → Prop) (g : Nat) (W W' : World) : Prop := Only T W W' ∧ ∀ fl, Flags W g fl → Flags W' g fl
theorem Rel.refl (T : Nat → Prop) (g : Nat) (W : World) : Rel T g W W := ⟨Only.refl _ _, fun _ h => h⟩
theorem Rel.trans {T : Nat → Prop} {g : Nat} {a b c : World} (h : Rel T g a b) (k : Rel T g b c) : Rel T g a c := ⟨h.1.trans k.1 fun _ h => .inl h, fun fl hf => k.2 fl (h.2 fl hf)⟩
theorem Rel.below {T : Nat → Prop} {g : Nat} {a b : World} (h : Below a.heap.size a b) : Rel T g a b := ⟨Only.of_below h, fun fl ⟨l, h1, h2⟩ => ⟨l, h1.below h, h2⟩⟩
set_option maxRecDepth 100000 in
set_option maxHeartbeats 4000000 in
theorem ans1_in (n l cb g N : Nat) (fl : List Bool) (hfl : fl.length = N) (hN : N ≤ 1000) (T : Nat → Prop) (J Jx : List (Sn N) → World → Prop)
    (hY : ∀ pre (x : Sn N) W, J pre W → pre.length < N → YieldAt Fence.wide (n - 1) Tryz.prog l (snV g x) W fun e W' =>
      (e = .returned (.bool true) ∧ J (pre ++ [x]) W' ∧ Rel T g W W') ∨ (e = .returned (.bool false) ∧ Jx (pre ++ [x]) W'))
    (W : World) (hcb : Has W cb #[.slice (some ⟨g, 0, none⟩) N N] 68) (hfg : Flags W g fl) (hT1 : ¬ T cb) (h0 : J [] W) :
    CallsIn Fence.wide n Tryz.prog 79 #[.func (.yield l) #[] #[], .pointer (some ⟨cb, 0, none⟩)] W fun e W' => (∃ v, e = .returned v) ∧
      ((∃ ys : List (Sn N), ys.map snN = idxF 0 fl ∧ J ys W') ∨ (∃ pre : List (Sn N), pre.map snN <+: idxF 0 fl ∧ Jx pre W')) := by
  have hsa := @Oper.semAt_some
  have c0 := hcb.cell 0
  simp only [List.getElem?_toArray, List.getElem?_cons_zero] at c0
  have HCB := hid hcb
  have HFG := hid hfg
  have HFL := hid hfl
  clear hcb hfg hfl
  refine callsIn_of_wp Tryz.func79 rfl trivial ?_ rfl
  simp only [Tryz.ntmps79, List.size_toArray, List.length_cons, List.length_nil, Nat.reduceAdd, Nat.reduceSub, Array.replicate_succ, Array.replicate_zero, List.push_toArray, List.append_toArray, List.nil_append, List.cons_append]
  gi_wp2
  gi_loopw [3, 6] (fun s3 s6 wr => ∃ (k : Nat) (pre : List (Sn N)), k ≤ N ∧ pre.length ≤ k ∧ pre.map snN = idxF 0 (fl.take k) ∧ s6 = .int .i64 (k : Int) ∧ J pre wr ∧ Rel T g W wr)
    (fun _ s6 _ => (N : Int).toNat - (intOf s6).toNat)
  case atStart => exact ⟨0, [], Nat.zero_le _, Nat.le_refl _, by simp [idxF], rfl, h0, Rel.refl _ _ _⟩
  case round =>
    obtain ⟨k, pre, hk, hpl, hpm, rfl, hJs, hO⟩ := hrel
    by_cases hkn : k = N
    · subst hkn
      have q1 : ¬ ((k : Int) < (k : Int)) := by omega
      have HP := hid hpm
      clear hpm
      gi_wp2
      go_end0
      exact ⟨⟨_, rfl⟩, .inl ⟨pre, by rw [HP.out, List.take_of_length_le (by rw [HFL.out]; exact Nat.le_refl _)], hJs⟩⟩
    · have hlt : k < N := by omega
      have q0 : (k : Int) < (N : Int) := by omega
      have wk : IntKind.i64.wrap ((k : Int) + 1) = ((k + 1 : Nat) : Int) := wrapN (b := 1) (by omega)
      obtain ⟨x, hx⟩ : ∃ x, fl[k]? = some x := ⟨_, List.getElem?_eq_getElem (by have := HFL.out; omega)⟩
      have d0 : wr.cell? ⟨cb, 0, none⟩ = some (.slice (some ⟨g, 0, none⟩) N N) := (hO.1.has HCB.out hT1).cell 0
      obtain ⟨l', hl', hm'⟩ := hO.2 fl HFG.out
      have hd1 : wr.cell? ⟨g, k * 13, none⟩ = some (.bool x) := by
        rw [← hm', List.getElem?_map] at hx
        obtain ⟨h', e1, e2⟩ := Option.map_eq_some_iff.1 hx
        have := (hl'.hd e1).cells.1
        rw [← e2]
        exact this
      have hst := idxF_take fl k 0 x hx
      clear hl' hm'
      cases x with
      | false =>
        have HS : Hid (pre.map snN = idxF 0 (fl.take (k + 1))) := hid (by rw [hst, hpm]; simp)
        have HJb := hid hJs
        have HOb := hid hO
        clear hst hpm hJs hx hO
        gi_wp2
        refine ⟨fun _ h => (by cases h), ?_⟩
        gi_wp2
        go_roundw
        case rel => exact ⟨k + 1, pre, by omega, by omega, HS.out, by first | rfl | simp, HJb.out, HOb.out⟩
        case measure => first | (simp [intOf]; done) | (simp [intOf]; omega)
      | true =>
        obtain ⟨fn, tmps, assign, body, hy, hR⟩ := hY pre ⟨k, hlt⟩ wr hJs (by omega)
        unfold snV at hy
        simp only at hy
        have HS : Hid ((pre ++ [(⟨k, hlt⟩ : Sn N)]).map snN = idxF 0 (fl.take (k + 1))) := hid (by rw [List.map_append, hst, hpm]; simp [snN])
        have HOb := hid hO
        clear hst hpm hJs hx hO
        gi_wp2
        refine ⟨fun h => by simp [Fence.wide] at h, hR.mono ?_⟩
        rintro e W3 (⟨rfl, hJ3, hk3⟩ | ⟨rfl, hJx3⟩)
        · have O3 := hid (HOb.out.trans hk3)
          clear hR hy d0 hd1 hk3 HOb
          gi_wp2
          go_roundw
          case rel => exact ⟨k + 1, _, by omega, by simp; omega, HS.out, by first | rfl | simp, hJ3, O3.out⟩
          case measure => first | (simp [intOf]; done) | (simp [intOf]; omega)
        · clear hR hy d0 hd1 HOb
          gi_wp2
          refine bodyPost_ret (results_none rfl _ _ _) rfl ?_
          exact ⟨⟨_, rfl⟩, .inr ⟨_, by rw [HS.out]; exact idxF_pre fl 0 (k + 1), hJx3⟩⟩
/-- the iterator -/
theorem ans_stops (n cb g N : Nat) (fl : List Bool) (hfl : fl.length = N) (hN : N ≤ 1000) (T : Nat → Prop) (w : World) (hcb : Has w cb #[.slice (some ⟨g, 0, none⟩) N N] 68) (hfg : Flags w g fl) (hT1 : ¬ T cb) :
    SeqStopsK Fence.wide n Tryz.prog 79 #[.pointer (some ⟨cb, 0, none⟩)] (snV g (n := N)) (Rel T g) (fun ys => ys.map snN = idxF 0 fl) (fun pre => pre.map snN <+: idxF 0 fl) N w := fun l J Jx W hW hJ _ hY h0 =>
  ans1_in n l cb g N fl hfl hN T J Jx hY W (hcb.below hW hcb.lt) ((Rel.below (T := T) hW).2 fl hfg) hT1 h0
set_option maxRecDepth 20000 in
theorem answering_any (a : Option Addr) (n c : Nat) (w : World) : Calls Tryz.prog 52 #[.slice a n c] w fun e w' => e = .returned (.func (.func 79) #[] #[.pointer (some ⟨w.heap.size, 0, none⟩)]) ∧ w' = w.alloc (.cells #[.slice a n c] 68) := by
  go_enter Tryz.func52, Tryz.ntmps52
  go_wp2_with fail
  go_ret
  exact ⟨rfl, rfl⟩
end Go.Proofs.YtmpgfpmkmgebdaaGreatDoor
/- Quorum: how many answer. -/
namespace Go.Proofs.YtmpgfpmkmgebdaaGreatDoor
open Go.RowKit Go.Maps
open W
set_option linter.unusedVariables false
theorem Rel.putObj {T : Nat → Prop} {g l : Nat} {W : World} (o : Obj) (hT : T l) (hg : g ≠ l) : Rel T g W (W.putObj l o) :=
  ⟨Only.of_grown (grownBy_putObj' W l o) (fun k hk => by cases hk; exact hT), fun fl ⟨l', h1, h2⟩ => ⟨l', h1.only (S := fun i => i = l) (Only.of_grown (grownBy_putObj' W l o) (fun k hk => by cases hk; rfl)) hg, h2⟩⟩
theorem Rel.grown {T : Nat → Prop} {g : Nat} {X Y : World} {row : Option Nat} (hg : X.grownBy Y row) (hT : ∀ k, row = some k → T k) (hn : ∀ k, row = some k → g ≠ k) : Rel T g X Y :=
  ⟨Only.of_grown hg hT, fun fl ⟨l', h1, h2⟩ => ⟨l', h1.only (S := fun i => row = some i) (Only.of_grown hg fun k h => h) (fun e => hn g e rfl), h2⟩⟩
theorem Rel.set {T : Nat → Prop} {g b i : Nat} {W : World} (v : Value) (hT : T b) (hg : g ≠ b) : Rel T g W (W.setCell ⟨b, i, none⟩ v) :=
  ⟨Only.set (p := ⟨b, i, none⟩) (Only.refl T W) (.inl hT) v, fun fl ⟨l', h1, h2⟩ => ⟨l', h1.only (S := fun k => k = b) (Only.set (p := ⟨b, i, none⟩) (Only.refl (fun k => k = b) W) (.inl rfl) v) hg, h2⟩⟩
theorem allAt_flags {W : World} {g : Nat} {l : List Hd} (h : AllAt W g l) : Flags W g (l.map (·.ans)) := ⟨l, h, rfl⟩
set_option maxHeartbeats 4000000 in
set_option maxRecDepth 20000 in
theorem answers_any {w : World} {g N : Nat} {l : List Hd} (hg : AllAt w g l) (hl : l.length = N) (hN : N ≤ 1000) : Calls Tryz.prog 27 #[.slice (some ⟨g, 0, none⟩) N N] w fun e w' => e = .returned (.int .i64 ((idx 0 l).length : Int)) ∧ Below w.heap.size w w' := by
  have HGL : Hid (g < w.heap.size) := hid hg.lt
  have HG := hid hg
  have HLL := hid hl
  clear hg hl
  refine (callsIn_wide (n := 6)).1 ?_
  refine callsIn_of_wp_marks Tryz.func27 rfl trivial ?_ rfl
  simp only [Tryz.ntmps27, List.size_toArray, List.length_cons, List.length_nil, Nat.reduceAdd, Nat.reduceSub, Array.replicate_succ, Array.replicate_zero, List.push_toArray, List.append_toArray, List.nil_append, List.cons_append]
  refine wpIn_wide.2 ?_
  go_wp2_with fail
  have hBk := answering_any (some ⟨g, 0, none⟩) N N (w.alloc (.cells #[.int .i64 0] 3))
  refine hBk.mono ?_
  rintro e w1 ⟨rfl, rfl⟩
  clear hBk
  go_wp2_with fail
  have hs2 : ((w.alloc (.cells #[.int .i64 0] 3)).alloc (.cells #[.slice (some ⟨g, 0, none⟩) N N] 68)).heap.size = w.heap.size + 2 := by simp
  have hb2 : Below w.heap.size w ((w.alloc (.cells #[.int .i64 0] 3)).alloc (.cells #[.slice (some ⟨g, 0, none⟩) N N] 68)) := ((Below.refl _ _).alloc (Nat.le_refl _) _).alloc (by simp) _
  have hcb : Has ((w.alloc (.cells #[.int .i64 0] 3)).alloc (.cells #[.slice (some ⟨g, 0, none⟩) N N] 68)) (w.heap.size + 1) #[.slice (some ⟨g, 0, none⟩) N N] 68 := Has.new _ (w.heap.size + 1) _ _ (by simp)
  have hn0 : Has ((w.alloc (.cells #[.int .i64 0] 3)).alloc (.cells #[.slice (some ⟨g, 0, none⟩) N N] 68)) w.heap.size #[.int .i64 0] 3 := (Has.new w w.heap.size _ _ rfl).alloc _
  try simp only [World.size_alloc]
  generalize (w.alloc (.cells #[.int .i64 0] 3)).alloc (.cells #[.slice (some ⟨g, 0, none⟩) N N] 68) = W2 at *
  have hfg : Flags W2 g (l.map (·.ans)) := allAt_flags (HG.out.below hb2)
  obtain ⟨T, hT⟩ : ∃ T : Nat → Prop, T = fun i => i = w.heap.size ∨ w.heap.size + 2 ≤ i := ⟨_, rfl⟩
  have hTcb : ¬ T (w.heap.size + 1) := fun hh => by
    rw [hT] at hh
    omega
  have hTn : ∀ i, w.heap.size + 2 ≤ i → T i := fun i hi => by rw [hT]; exact .inr hi
  have hT0 : T w.heap.size := by rw [hT]; exact .inl rfl
  have hTw : ∀ i, T i → w.heap.size ≤ i := fun i hi => by
    rw [hT] at hi
    rcases hi with hi | hi <;> omega
  have hgl := HGL.out
  refine wpIn_wide (n := 6).1 ?_
  refine wpIn_rangeFunc_ownH (α := Sn N) (F := Fence.wide) (n := 6) rfl (by omega) (gf := 79) (lb := #[.pointer (some ⟨w.heap.size + 1, 0, none⟩)]) rfl trivial (enters_of Tryz.func79 (by kernel_rfl) rfl)
    (ans_stops 5 (w.heap.size + 1) g N (l.map (·.ans)) (by rw [List.length_map]; exact HLL.out) hN T W2 hcb hfg hTcb)
    (fun h1 h2 => h1.trans h2)
    (fun W l' o o' hl' ho hc hw => Rel.putObj o' (hTn _ (by omega)) (by omega))
    (Below.refl _ _) (fun _ => rfl)
    (fun pre W => Has W w.heap.size #[.int .i64 (pre.length : Int)] 3 ∧ Rel T g W2 W)
    (fun _ _ _ => False)
    (fun pre X Y row hs hg hr => ⟨(Only.of_grown (S := fun i => row = some i) hg fun k hk => hk).has hs.1 (fun e => by have := (hr _ e).1; omega),
      hs.2.trans (Rel.grown hg (fun k hk => hTn k (by have := (hr k hk).1; omega)) (fun k hk => by have := (hr k hk).1; omega))⟩)
    (fun _ _ _ _ _ hs _ _ => hs)
    ⟨hn0, Rel.refl _ _ _⟩
    (fun x a' W => a' = { tmps := #[.slice (some ⟨g, 0, none⟩) N N, undef, .int .i64 0, .pointer (some ⟨w.heap.size, 0, none⟩), .slice (some ⟨g, 0, none⟩) N N, .func (.func 79) #[] #[.pointer (some ⟨w.heap.size + 1, 0, none⟩)], .int .i64 (x.1 : Int), .pointer (some ⟨g, x.1 * 13, none⟩), undef, undef, undef], defers := [] })
    (fun x a' _ X Y row hs hg hr => hs)
    ?assign ?body ?done ?stop
  case assign =>
    rintro l pre x W K hi hK
    have hsa := @Oper.semAt_some
    unfold snV at *
    gi_wp2
    exact hK _ _ ((KeepsOthers.refl _).from _) (Rel.refl _ _ _) hi (by simp)
  case body =>
    rintro l pre x a' W hl hr ⟨hi1, hi2⟩ rfl hlt
    have hsa := @Oper.semAt_some
    have d0 : W.cell? ⟨w.heap.size, 0, none⟩ = some (.int .i64 (pre.length : Int)) := hi1.cell 0
    have d1 : W.frozen? ⟨w.heap.size, 0, none⟩ = false := hi1.frozen 0
    have wk : IntKind.i64.wrap ((pre.length : Int) + 1) = ((pre.length + 1 : Nat) : Int) := wrapN (b := 1) (by omega)
    have HN : Hid (Has (W.setCell ⟨w.heap.size, 0, none⟩ (.int .i64 ((pre.length + 1 : Nat) : Int))) w.heap.size #[.int .i64 (((pre ++ [x]).length : Nat) : Int)] 3) := hid (by
      rw [List.length_append]
      exact hi1.set 0 _)
    have HO : Hid (Rel T g W (W.setCell ⟨w.heap.size, 0, none⟩ (.int .i64 ((pre.length + 1 : Nat) : Int)))) := hid (Rel.set _ hT0 (by omega))
    have HI2 := hid hi2
    clear hi1 hi2 hr
    gi_wp2_with fail
    exact ⟨(KeepsOthers.setCell _ _ _).from _, HO.out, HN.out, HI2.out.trans HO.out⟩
  case done =>
    rintro D ys W hD hys ⟨hi1, hi2⟩ hK
    have d0 : W.cell? ⟨w.heap.size, 0, none⟩ = some (.int .i64 (ys.length : Int)) := hi1.cell 0
    have hyl : ys.length = (idx 0 l).length := by rw [idx_idxF, ← hys, List.length_map]
    have HB := hid ((hb2.trans ((hi2.1.below (by omega) hTw : Below w.heap.size W2 W))))
    have HK := hid hK
    have HYL := hid hyl
    clear hys hyl hi1 hi2 hK hT hTn hTw
    go_wp2_with fail
    refine ⟨by simp, .inl ⟨_, _, rfl, run_takeDeferred HK.out, ?_⟩⟩
    refine ⟨_, results_tmp rfl _ _ _, by rw [HYL.out]; rfl, ?_⟩
    exact HB.out.trans ((Only.of_grown (S := fun i => i = D) (grownBy_putObj' W D (.deferred none)) fun k hk => by cases hk; rfl).below (by have := HB.out.size; omega) (fun i hi => by omega))
  case stop =>
    rintro D c pre W _ _ h _
    exact h.elim
end Go.Proofs.YtmpgfpmkmgebdaaGreatDoor
/- Quorum: the newest. -/
namespace Go.Proofs.YtmpgfpmkmgebdaaGreatDoor
open Go.RowKit Go.Maps
open W
set_option linter.unusedVariables false
/-- the newest of those of some numbers -/
def nwP (l : List Hd) {n : Nat} (pre : List (Sn n)) : Rp := (pre.map snN).foldl (upH l) noR
theorem nwP_snoc (l : List Hd) {n : Nat} (pre : List (Sn n)) (x : Sn n) : nwP l (pre ++ [x]) = upH l (nwP l pre) x.1 := by
  unfold nwP
  rw [List.map_append, List.foldl_append]
  rfl
theorem upR_none {b r : Rp} (h : r.sd = false) : upR b r = b := by simp [upR, h]
theorem upR_first {b r : Rp} (h : r.sd = true) (hb : b.sd = false) : upR b r = r := by simp [upR, h, hb]
theorem upR_less {b r : Rp} (h : r.sd = true) (hb : b.sd = true) : upR b r = if ls b.b r.b then r else b := by simp [upR, h, hb]
theorem ix106_0 (a0 a1 a2 a3 a4 a5 b0 b1 b2 b3 b4 b5 : Value) (w : World) : (Instr.index 106 (.agg #[a0, a1, a2, a3, a4, a5, b0, b1, b2, b3, b4, b5]) (.int .i64 0)).run Tryz.prog w = .ok (.agg #[a0, a1, a2, a3, a4, a5]) w := by kernel_rfl
theorem ix106_1 (a0 a1 a2 a3 a4 a5 b0 b1 b2 b3 b4 b5 : Value) (w : World) : (Instr.index 106 (.agg #[a0, a1, a2, a3, a4, a5, b0, b1, b2, b3, b4, b5]) (.int .i64 1)).run Tryz.prog w = .ok (.agg #[b0, b1, b2, b3, b4, b5]) w := by kernel_rfl
set_option maxRecDepth 20000 in
theorem res34 {fn : Func} {tmps : Array Value} {W : World} {b : Nat} {x : Bst} {p u : Tmp} {v : Value} (hf : fn.results = #[.cell p 34, .tmp u]) (hp : tmps.getD p undef = .pointer (some ⟨b, 0, none⟩)) (hv : tmps.getD u undef = v) (hc : Has W b (bV x).toArray 34) : (results fn tmps).run Tryz.prog W = .ok (.tuple #[.agg (bV x).toArray, v]) W := by
  rw [results_cell_tmp hf, hp, hv]
  have hld := run_loadVar_mid (P := Tryz.prog) W b 0 34 (bV x) _ hc.range Tryz.underlying34 rfl info34
  show ((Sem.run Tryz.prog (loadVar 34 ⟨b, 0, none⟩) W).andThen _) = _
  rw [hld]
  rfl
/-- the newest behind the first k slots of a store -/
def curN (b : Rp) (h : Hd) : Nat → Rp
  | 0 => b
  | 1 => upR b h.r0
  | _ => upR (upR b h.r0) h.r1
def rAt (h : Hd) (k : Nat) : Rp := if k = 0 then h.r0 else h.r1
theorem curN_succ (b : Rp) (h : Hd) {k : Nat} (hk : k < 2) : curN b h (k + 1) = upR (curN b h k) (rAt h k) := by
  rcases (by omega : k = 0 ∨ k = 1) with rfl | rfl <;> rfl
theorem keeps_only {B q : Nat} {W W' : World} {cs : Array Value} {t : TypeId} (ho : Only (fun i => i = q) W W') (hq : Has W q cs t) : KeepsFrom B W W' := by
  refine ⟨ho.size, fun k o hBk hk hnc => ?_⟩
  have hkl : k < W.heap.size := (Array.getElem?_eq_some_iff.1 hk).1
  refine (ho.block k hkl fun e => ?_).trans hk
  subst e
  unfold Has at hq
  rw [hq] at hk
  cases hk
  cases hnc
set_option maxHeartbeats 8000000 in
set_option maxRecDepth 20000 in
theorem newest_any {w : World} {g N : Nat} {l : List Hd} (hg : AllAt w g l) (hl : l.length = N) (hN : N ≤ 1000) : Calls Tryz.prog 26 #[.slice (some ⟨g, 0, none⟩) N N] w fun e w' => e = .returned (.tuple #[.agg (bV (nwst l).b).toArray, .bool (nwst l).sd]) ∧ Below w.heap.size w w' := by
  have HGL : Hid (g < w.heap.size) := hid hg.lt
  have HG := hid hg
  have HLL := hid hl
  clear hg hl
  refine (callsIn_wide (n := 6)).1 ?_
  refine callsIn_of_wp_marks Tryz.func26 rfl trivial ?_ rfl
  simp only [Tryz.ntmps26, List.size_toArray, List.length_cons, List.length_nil, Nat.reduceAdd, Nat.reduceSub, Array.replicate_succ, Array.replicate_zero, List.push_toArray, List.append_toArray, List.nil_append, List.cons_append]
  refine wpIn_wide.2 ?_
  go_wp2_with fail
  have hBk := answering_any (some ⟨g, 0, none⟩) N N ((w.alloc (.cells #[.int .i64 0, .int .i64 0, .int .i64 0, .int .i64 0, .string ⟨#[]⟩] 34)).alloc (.cells #[.bool false, .int .i64 0, .int .i64 0, .int .i64 0, .int .i64 0, .string ⟨#[]⟩] 105))
  refine hBk.mono ?_
  rintro e w1 ⟨rfl, rfl⟩
  clear hBk
  go_wp2_with fail
  obtain ⟨W2, hW2⟩ : ∃ W2, W2 = ((w.alloc (.cells #[.int .i64 0, .int .i64 0, .int .i64 0, .int .i64 0, .string ⟨#[]⟩] 34)).alloc (.cells #[.bool false, .int .i64 0, .int .i64 0, .int .i64 0, .int .i64 0, .string ⟨#[]⟩] 105)).alloc (.cells #[.slice (some ⟨g, 0, none⟩) N N] 68) := ⟨_, rfl⟩
  have hs2 : W2.heap.size = w.heap.size + 3 := by rw [hW2]; simp
  have hb2 : Below w.heap.size w W2 := by rw [hW2]; exact (((Below.refl _ _).alloc (Nat.le_refl _) _).alloc (by simp) _).alloc (by simp; omega) _
  have hcb : Has W2 (w.heap.size + 2) #[.slice (some ⟨g, 0, none⟩) N N] 68 := by rw [hW2]; exact Has.new _ (w.heap.size + 2) _ _ (by simp)
  have hn0 : Has W2 (w.heap.size + 1) (rV noR).toArray 105 := by rw [hW2]; exact (Has.new _ (w.heap.size + 1) _ _ (by simp)).alloc _
  have hr0 : Has W2 w.heap.size (bV zB).toArray 34 := by rw [hW2]; exact ((Has.new w w.heap.size _ _ rfl).alloc _).alloc _
  try simp only [World.size_alloc]
  rw [← hW2]
  clear hW2
  have hA2 := HG.out.below hb2
  have hfg : Flags W2 g (l.map (·.ans)) := allAt_flags hA2
  obtain ⟨T, hT⟩ : ∃ T : Nat → Prop, T = fun i => i = w.heap.size + 1 ∨ w.heap.size + 3 ≤ i := ⟨_, rfl⟩
  have hTcb : ¬ T (w.heap.size + 2) := fun hh => by
    rw [hT] at hh
    omega
  have hgl := HGL.out
  have hTg : ¬ T g := fun hh => by
    rw [hT] at hh
    omega
  have hTr : ¬ T w.heap.size := fun hh => by
    rw [hT] at hh
    omega
  have hTn : ∀ i, w.heap.size + 3 ≤ i → T i := fun i hi => by rw [hT]; exact .inr hi
  have hT0 : T (w.heap.size + 1) := by rw [hT]; exact .inl rfl
  have hTw : ∀ i, T i → w.heap.size ≤ i := fun i hi => by
    rw [hT] at hi
    rcases hi with hi | hi <;> omega
  refine wpIn_wide (n := 6).1 ?_
  refine wpIn_rangeFunc_ownH (α := Sn N) (F := Fence.wide) (n := 6) rfl (by omega) (gf := 79) (lb := #[.pointer (some ⟨w.heap.size + 2, 0, none⟩)]) rfl trivial (enters_of Tryz.func79 (by kernel_rfl) rfl)
    (ans_stops 5 (w.heap.size + 2) g N (l.map (·.ans)) (by rw [List.length_map]; exact HLL.out) hN T W2 hcb hfg hTcb)
    (fun h1 h2 => h1.trans h2)
    (fun W l' o o' hl' ho hc hw => Rel.putObj o' (hTn _ (by omega)) (by omega))
    (Below.refl _ _) (fun _ => rfl)
    (fun pre W => Has W (w.heap.size + 1) (rV (nwP l pre)).toArray 105 ∧ Rel T g W2 W)
    (fun _ _ _ => False)
    (fun pre X Y row hs hg hr => ⟨(Only.of_grown (S := fun i => row = some i) hg fun k hk => hk).has hs.1 (fun e => by have := (hr _ e).1; omega),
      hs.2.trans (Rel.grown hg (fun k hk => hTn k (by have := (hr k hk).1; omega)) (fun k hk => by have := (hr k hk).1; omega))⟩)
    (fun _ _ _ _ _ hs _ _ => hs)
    ⟨hn0, Rel.refl _ _ _⟩
    (fun x a' W => a' = { tmps := #[.slice (some ⟨g, 0, none⟩) N N, undef, .pointer (some ⟨w.heap.size, 0, none⟩), .bool false, .pointer (some ⟨w.heap.size + 1, 0, none⟩), undef, .pointer (some ⟨g, x.1 * 13, none⟩), undef, undef, .slice (some ⟨g, 0, none⟩) N N, .func (.func 79) #[] #[.pointer (some ⟨w.heap.size + 2, 0, none⟩)], .int .i64 (x.1 : Int), .pointer (some ⟨g, x.1 * 13, none⟩), undef, undef, undef, undef, undef, undef, undef, undef, undef, undef, undef, undef, undef, undef, undef, undef, undef, undef, undef, undef, undef, undef, undef, undef, undef, undef, undef, undef, undef], defers := [] })
    (fun x a' _ X Y row hs hg hr => hs)
    ?assign ?body ?done ?stop
  case assign =>
    rintro l pre x W K hi hK
    have hsa := @Oper.semAt_some
    unfold snV at *
    gi_wp2
    exact hK _ _ ((KeepsOthers.refl _).from _) (Rel.refl _ _ _) hi (by simp)
  case body =>
    rintro ll pre x a' W hl hr ⟨hi1, hi2⟩ rfl hlt
    have hsa := @Oper.semAt_some
    have hA := hA2.only hi2.1 hTg
    obtain ⟨h, hh⟩ : ∃ h, l[x.1]? = some h := ⟨_, List.getElem?_eq_getElem (by rw [HLL.out]; exact x.2)⟩
    have hAt := (hA.hd hh).cells
    have HUP : Hid (nwP l (pre ++ [x]) = curN (nwP l pre) h 2) := hid (by rw [nwP_snoc]; unfold upH; rw [hh]; rfl)
    obtain ⟨d, r0, r1⟩ := h
    obtain ⟨_, ⟨a1, a2, a3, a4, a5, a6⟩, ⟨b1, b2, b3, b4, b5, b6⟩⟩ := hAt
    have x1 : W.cell? ⟨g, x.1 * 13 + 1 + 6, none⟩ = some (.bool r1.sd) := b1
    have HB1 := hid hi1
    have HB2 := hid hi2
    clear hi1 hi2 hA hh hr
    obtain ⟨s0, e0, g0, k0, n0, p0⟩ := r0
    obtain ⟨s1, e1, g1, k1, n1, p1⟩ := r1
    simp only at a1 a2 a3 a4 a5 a6 b1 b2 b3 b4 b5 b6 x1
    gi_wp2_with fail
    obtain ⟨bb, hbb⟩ : ∃ bb, bb = nwP l pre := ⟨_, rfl⟩
    rw [← hbb] at HB1 HUP
    clear hbb
    gi_loopw [8, 17] (fun s8 s17 wr => ∃ (k : Nat), k ≤ 2 ∧ s17 = .int .i64 (k : Int) ∧ Has wr (w.heap.size + 1) (rV (curN bb ⟨d, ⟨s0, ⟨e0, g0, k0, n0, p0⟩⟩, ⟨s1, ⟨e1, g1, k1, n1, p1⟩⟩⟩ k)).toArray 105 ∧ Only (fun i => i = w.heap.size + 1) W wr)
      (fun _ s17 _ => 2 - (intOf s17).toNat)
    case atStart => exact ⟨0, by omega, rfl, HB1.out, Only.refl _ _⟩
    case round =>
      obtain ⟨k, hk, rfl, hH, hO⟩ := hrel
      clear a1 a2 a3 a4 a5 a6 b1 b2 b3 b4 b5 b6 x1
      by_cases hk2 : k = 2
      · subst hk2
        have HH := hid hH
        have HO := hid hO
        clear hH hO
        gi_wp2_with fail
        have hrel : Rel T g W wr := ⟨HO.out.mono fun i hi => by rw [hi]; exact hT0, fun fl ⟨l', h1, h2⟩ => ⟨l', h1.only HO.out (by omega), h2⟩⟩
        exact ⟨keeps_only HO.out HB1.out, hrel, by rw [HUP.out]; exact HH.out, HB2.out.trans hrel⟩
      · have q0 : (k : Int) < 2 := by omega
        rcases (by omega : k = 0 ∨ k = 1) with rfl | rfl
        · rw [show (((0 : Nat)) : Int) = 0 from rfl] at q0 ⊢
          have HC : Hid (curN bb ⟨d, ⟨s0, ⟨e0, g0, k0, n0, p0⟩⟩, ⟨s1, ⟨e1, g1, k1, n1, p1⟩⟩⟩ (0 + 1) = upR (curN bb ⟨d, ⟨s0, ⟨e0, g0, k0, n0, p0⟩⟩, ⟨s1, ⟨e1, g1, k1, n1, p1⟩⟩⟩ 0) ⟨s0, ⟨e0, g0, k0, n0, p0⟩⟩) := hid (curN_succ _ _ (by omega))
          generalize curN bb ⟨d, ⟨s0, ⟨e0, g0, k0, n0, p0⟩⟩, ⟨s1, ⟨e1, g1, k1, n1, p1⟩⟩⟩ 0 = cu at *
          obtain ⟨cu', hcc'⟩ : ∃ cu', cu' = curN bb ⟨d, ⟨s0, ⟨e0, g0, k0, n0, p0⟩⟩, ⟨s1, ⟨e1, g1, k1, n1, p1⟩⟩⟩ (0 + 1) := ⟨_, rfl⟩
          rw [← hcc'] at HC
          have HCC := hid hcc'
          clear hcc'
          obtain ⟨us, ue, ug, uk, un, up⟩ := cu
          obtain ⟨w3, hw3⟩ : ∃ w3, w3 = wr.alloc (.cells #[.bool s0, .int .i64 e0, .int .i64 g0, .int .i64 k0, .int .i64 n0, .string p0] 105) := ⟨_, rfl⟩
          have B3 : Below wr.heap.size wr w3 := by rw [hw3]; exact boxed _ _
          have HX : Has w3 wr.heap.size #[.bool s0, .int .i64 e0, .int .i64 g0, .int .i64 k0, .int .i64 n0, .string p0] 105 := by rw [hw3]; exact Has.new _ _ _ _ rfl
          obtain ⟨⟨y0, y1, y2, y3, y4, y5⟩, _⟩ := six_cells HX
          have HZ := hH.below B3 hH.lt
          have HZ' : Has w3 (w.heap.size + 1) #[.bool us, .int .i64 ue, .int .i64 ug, .int .i64 uk, .int .i64 un, .string up] 105 := HZ
          obtain ⟨⟨z0, z1, z2, z3, z4, z5⟩, f0, f1, f2, f3, f4, f5⟩ := six_cells HZ'
          have HZH := hid HZ'
          have HO3 := hid (hO.next B3)
          rw [hw3] at y0 y1 y2 y3 y4 y5 z0 z1 z2 z3 z4 z5 f0 f1 f2 f3 f4 f5
          have hHX := hid HX
          clear B3 HX HZ HZ' hH hO
          have hfin : ∀ W4, Below w3.heap.size w3 W4 → Has (set6 W4 (w.heap.size + 1) 0 ⟨s0, ⟨e0, g0, k0, n0, p0⟩⟩) (w.heap.size + 1) (rV ⟨s0, ⟨e0, g0, k0, n0, p0⟩⟩).toArray 105 ∧ Only (fun i => i = w.heap.size + 1) W (set6 W4 (w.heap.size + 1) 0 ⟨s0, ⟨e0, g0, k0, n0, p0⟩⟩) := fun W4 hb4 =>
            ⟨six_put (HZH.out.below hb4 HZH.out.lt) _ _ _ _ _ _, (HO3.out.next hb4).trans (set6_only W4 (w.heap.size + 1) 0 ⟨s0, ⟨e0, g0, k0, n0, p0⟩⟩) fun i hi => .inl hi⟩
          have HFIN := hid hfin
          clear hfin
          have hix0 := ix106_0
          have hix1 := ix106_1
          cases s0 with
          | false =>
            have hcu : cu' = ⟨us, ⟨ue, ug, uk, un, up⟩⟩ := by rw [HC.out]; exact upR_none rfl
            have HCU := hid hcu
            clear HC hcu
            gi_wp2_with fail
            case h_1.isTrue => rename_i hq _; exact absurd hq (by unfold undef; simp)
            case h_1.isFalse => rename_i hq _; exact absurd hq (by unfold undef; simp)
            refine ⟨trivial, ?_⟩
            gi_wp2_with fail
            rw [← hw3]
            go_roundw
            case rel => exact ⟨0 + 1, by omega, by first | rfl | simp, by rw [← HCC.out, HCU.out]; exact HZH.out, HO3.out⟩
            case measure => first | (simp [intOf]; done) | (simp [intOf]; omega)
          | true =>
            cases us with
            | false =>
              have HCU : Hid (cu' = ⟨true, ⟨e0, g0, k0, n0, p0⟩⟩) := hid (by rw [HC.out]; exact upR_first rfl rfl)
              have HF := hid (HFIN.out w3 (Below.refl _ _))
              rw [hw3] at HF
              clear HC HFIN
              gi_wp2_with fail
              try (refine ⟨trivial, ?_⟩; gi_wp2_with fail)
              go_roundw
              case rel => exact ⟨0 + 1, by omega, by first | rfl | simp, by rw [← HCC.out, HCU.out]; exact HF.out.1, HF.out.2⟩
              case measure => first | (simp [intOf]; done) | (simp [intOf]; omega)
            | true =>
              have HLS := F.less_any ue ug e0 g0 w3
              rw [hw3] at HLS
              gi_wp2_with fail
              refine ⟨trivial, (CallsIn.inRound ll (callsIn_wide.2 HLS)).mono ?_⟩
              rintro e w4 ⟨rfl, hb4⟩
              clear HLS
              rw [← hw3] at hb4
              have HH4 := hid (HZH.out.below hb4 HZH.out.lt)
              have HO4 := hid (HO3.out.next hb4)
              have HX4 := (hHX.out.below hb4 hHX.out.lt)
              obtain ⟨⟨y0', y1', y2', y3', y4', y5'⟩, _⟩ := six_cells HX4
              obtain ⟨⟨z0', z1', z2', z3', z4', z5'⟩, f0', f1', f2', f3', f4', f5'⟩ := six_cells HH4.out
              have HF := hid (HFIN.out w4 hb4)
              have HCU : Hid (cu' = if F.lessB ue ug e0 g0 then ⟨true, ⟨e0, g0, k0, n0, p0⟩⟩ else ⟨true, ⟨ue, ug, uk, un, up⟩⟩) := hid (by rw [HC.out]; exact upR_less rfl rfl)
              clear HC HFIN y0 y1 y2 y3 y4 y5 z0 z1 z2 z3 z4 z5 f0 f1 f2 f3 f4 f5 HX4
              cases hls : F.lessB ue ug e0 g0 with
              | true =>
                rw [hls, if_pos rfl] at HCU
                gi_wp2_with fail
                go_roundw
                case rel => exact ⟨0 + 1, by omega, by first | rfl | simp, by rw [← HCC.out, HCU.out]; exact HF.out.1, HF.out.2⟩
                case measure => first | (simp [intOf]; done) | (simp [intOf]; omega)
              | false =>
                rw [hls, if_neg (by decide)] at HCU
                gi_wp2_with fail
                go_roundw
                case rel => exact ⟨0 + 1, by omega, by first | rfl | simp, by rw [← HCC.out, HCU.out]; exact HH4.out, HO4.out⟩
                case measure => first | (simp [intOf]; done) | (simp [intOf]; omega)
        · rw [show (((1 : Nat)) : Int) = 1 from rfl] at q0 ⊢
          have HC : Hid (curN bb ⟨d, ⟨s0, ⟨e0, g0, k0, n0, p0⟩⟩, ⟨s1, ⟨e1, g1, k1, n1, p1⟩⟩⟩ (1 + 1) = upR (curN bb ⟨d, ⟨s0, ⟨e0, g0, k0, n0, p0⟩⟩, ⟨s1, ⟨e1, g1, k1, n1, p1⟩⟩⟩ 1) ⟨s1, ⟨e1, g1, k1, n1, p1⟩⟩) := hid (curN_succ _ _ (by omega))
          generalize curN bb ⟨d, ⟨s0, ⟨e0, g0, k0, n0, p0⟩⟩, ⟨s1, ⟨e1, g1, k1, n1, p1⟩⟩⟩ 1 = cu at *
          obtain ⟨cu', hcc'⟩ : ∃ cu', cu' = curN bb ⟨d, ⟨s0, ⟨e0, g0, k0, n0, p0⟩⟩, ⟨s1, ⟨e1, g1, k1, n1, p1⟩⟩⟩ (1 + 1) := ⟨_, rfl⟩
          rw [← hcc'] at HC
          have HCC := hid hcc'
          clear hcc'
          obtain ⟨us, ue, ug, uk, un, up⟩ := cu
          obtain ⟨w3, hw3⟩ : ∃ w3, w3 = wr.alloc (.cells #[.bool s1, .int .i64 e1, .int .i64 g1, .int .i64 k1, .int .i64 n1, .string p1] 105) := ⟨_, rfl⟩
          have B3 : Below wr.heap.size wr w3 := by rw [hw3]; exact boxed _ _
          have HX : Has w3 wr.heap.size #[.bool s1, .int .i64 e1, .int .i64 g1, .int .i64 k1, .int .i64 n1, .string p1] 105 := by rw [hw3]; exact Has.new _ _ _ _ rfl
          obtain ⟨⟨y0, y1, y2, y3, y4, y5⟩, _⟩ := six_cells HX
          have HZ := hH.below B3 hH.lt
          have HZ' : Has w3 (w.heap.size + 1) #[.bool us, .int .i64 ue, .int .i64 ug, .int .i64 uk, .int .i64 un, .string up] 105 := HZ
          obtain ⟨⟨z0, z1, z2, z3, z4, z5⟩, f0, f1, f2, f3, f4, f5⟩ := six_cells HZ'
          have HZH := hid HZ'
          have HO3 := hid (hO.next B3)
          rw [hw3] at y0 y1 y2 y3 y4 y5 z0 z1 z2 z3 z4 z5 f0 f1 f2 f3 f4 f5
          have hHX := hid HX
          clear B3 HX HZ HZ' hH hO
          have hfin : ∀ W4, Below w3.heap.size w3 W4 → Has (set6 W4 (w.heap.size + 1) 0 ⟨s1, ⟨e1, g1, k1, n1, p1⟩⟩) (w.heap.size + 1) (rV ⟨s1, ⟨e1, g1, k1, n1, p1⟩⟩).toArray 105 ∧ Only (fun i => i = w.heap.size + 1) W (set6 W4 (w.heap.size + 1) 0 ⟨s1, ⟨e1, g1, k1, n1, p1⟩⟩) := fun W4 hb4 =>
            ⟨six_put (HZH.out.below hb4 HZH.out.lt) _ _ _ _ _ _, (HO3.out.next hb4).trans (set6_only W4 (w.heap.size + 1) 0 ⟨s1, ⟨e1, g1, k1, n1, p1⟩⟩) fun i hi => .inl hi⟩
          have HFIN := hid hfin
          clear hfin
          have hix0 := ix106_0
          have hix1 := ix106_1
          cases s1 with
          | false =>
            have hcu : cu' = ⟨us, ⟨ue, ug, uk, un, up⟩⟩ := by rw [HC.out]; exact upR_none rfl
            have HCU := hid hcu
            clear HC hcu
            gi_wp2_with fail
            case h_1.isTrue => rename_i hq _; exact absurd hq (by unfold undef; simp)
            case h_1.isFalse => rename_i hq _; exact absurd hq (by unfold undef; simp)
            refine ⟨trivial, ?_⟩
            gi_wp2_with fail
            rw [← hw3]
            go_roundw
            case rel => exact ⟨1 + 1, by omega, by first | rfl | simp, by rw [← HCC.out, HCU.out]; exact HZH.out, HO3.out⟩
            case measure => first | (simp [intOf]; done) | (simp [intOf]; omega)
          | true =>
            cases us with
            | false =>
              have HCU : Hid (cu' = ⟨true, ⟨e1, g1, k1, n1, p1⟩⟩) := hid (by rw [HC.out]; exact upR_first rfl rfl)
              have HF := hid (HFIN.out w3 (Below.refl _ _))
              rw [hw3] at HF
              clear HC HFIN
              gi_wp2_with fail
              try (refine ⟨trivial, ?_⟩; gi_wp2_with fail)
              go_roundw
              case rel => exact ⟨1 + 1, by omega, by first | rfl | simp, by rw [← HCC.out, HCU.out]; exact HF.out.1, HF.out.2⟩
              case measure => first | (simp [intOf]; done) | (simp [intOf]; omega)
            | true =>
              have HLS := F.less_any ue ug e1 g1 w3
              rw [hw3] at HLS
              gi_wp2_with fail
              refine ⟨trivial, (CallsIn.inRound ll (callsIn_wide.2 HLS)).mono ?_⟩
              rintro e w4 ⟨rfl, hb4⟩
              clear HLS
              rw [← hw3] at hb4
              have HH4 := hid (HZH.out.below hb4 HZH.out.lt)
              have HO4 := hid (HO3.out.next hb4)
              have HX4 := (hHX.out.below hb4 hHX.out.lt)
              obtain ⟨⟨y0', y1', y2', y3', y4', y5'⟩, _⟩ := six_cells HX4
              obtain ⟨⟨z0', z1', z2', z3', z4', z5'⟩, f0', f1', f2', f3', f4', f5'⟩ := six_cells HH4.out
              have HF := hid (HFIN.out w4 hb4)
              have HCU : Hid (cu' = if F.lessB ue ug e1 g1 then ⟨true, ⟨e1, g1, k1, n1, p1⟩⟩ else ⟨true, ⟨ue, ug, uk, un, up⟩⟩) := hid (by rw [HC.out]; exact upR_less rfl rfl)
              clear HC HFIN y0 y1 y2 y3 y4 y5 z0 z1 z2 z3 z4 z5 f0 f1 f2 f3 f4 f5 HX4
              cases hls : F.lessB ue ug e1 g1 with
              | true =>
                rw [hls, if_pos rfl] at HCU
                gi_wp2_with fail
                go_roundw
                case rel => exact ⟨1 + 1, by omega, by first | rfl | simp, by rw [← HCC.out, HCU.out]; exact HF.out.1, HF.out.2⟩
                case measure => first | (simp [intOf]; done) | (simp [intOf]; omega)
              | false =>
                rw [hls, if_neg (by decide)] at HCU
                gi_wp2_with fail
                go_roundw
                case rel => exact ⟨1 + 1, by omega, by first | rfl | simp, by rw [← HCC.out, HCU.out]; exact HH4.out, HO4.out⟩
                case measure => first | (simp [intOf]; done) | (simp [intOf]; omega)
  case done =>
    rintro D ys W hD hys ⟨hi1, hi2⟩ hK
    have hnw : nwP l ys = nwst l := by
      unfold nwP nwst
      rw [hys, idx_idxF]
    rw [hnw] at hi1
    have hr2 : Has W w.heap.size (bV zB).toArray 34 := hi2.1.has hr0 hTr
    obtain ⟨nw, hnwe⟩ : ∃ nw, nw = nwst l := ⟨_, rfl⟩
    rw [← hnwe] at hi1
    obtain ⟨us, ue, ug, uk, un, up⟩ := nw
    have HNW := hid hnwe
    clear hnwe
    obtain ⟨⟨z0, z1, z2, z3, z4, z5⟩, _⟩ := six_cells (show Has W (w.heap.size + 1) #[.bool us, .int .i64 ue, .int .i64 ug, .int .i64 uk, .int .i64 un, .string up] 105 from hi1)
    have y0 : W.cell? ⟨w.heap.size, 0, none⟩ = some (.int .i64 0) := hr2.cell 0
    have y1 : W.cell? ⟨w.heap.size, 1, none⟩ = some (.int .i64 0) := hr2.cell 1
    have y2 : W.cell? ⟨w.heap.size, 2, none⟩ = some (.int .i64 0) := hr2.cell 2
    have y3 : W.cell? ⟨w.heap.size, 3, none⟩ = some (.int .i64 0) := hr2.cell 3
    have y4 : W.cell? ⟨w.heap.size, 4, none⟩ = some (.string ⟨#[]⟩) := hr2.cell 4
    have f0 := hr2.frozen 0
    have f1 := hr2.frozen 1
    have f2 := hr2.frozen 2
    have f3 := hr2.frozen 3
    have f4 := hr2.frozen 4
    have HB := hid ((hb2.trans ((hi2.1.below (by omega) hTw : Below w.heap.size W2 W))))
    have HK := hid hK
    have HR := hid hr2
    clear hys hi1 hi2 hK hT hTn hTw hr2 hnw
    go_wp2_with fail
    go_region
    obtain ⟨W4, hW4⟩ : ∃ W4, W4 = (((((W.setCell ⟨w.heap.size, 0, none⟩ (.int .i64 ue)).setCell ⟨w.heap.size, 1, none⟩ (.int .i64 ug)).setCell ⟨w.heap.size, 2, none⟩ (.int .i64 uk)).setCell ⟨w.heap.size, 3, none⟩ (.int .i64 un)).setCell ⟨w.heap.size, 4, none⟩ (.string up)).drew := ⟨_, rfl⟩
    have O4 : Only (fun i => i = w.heap.size) W W4 := by
      rw [hW4]
      exact (Only.set (p := ⟨w.heap.size, 4, none⟩) (Only.set (p := ⟨w.heap.size, 3, none⟩) (Only.set (p := ⟨w.heap.size, 2, none⟩) (Only.set (p := ⟨w.heap.size, 1, none⟩) (Only.set (p := ⟨w.heap.size, 0, none⟩) (Only.refl (fun i => i = w.heap.size) W) (.inl rfl) _) (.inl rfl) _) (.inl rfl) _) (.inl rfl) _) (.inl rfl) _).drew
    have H4 : Has W4 w.heap.size (bV ⟨ue, ug, uk, un, up⟩).toArray 34 := by
      rw [hW4]
      exact (((((HR.out.set 0 _).set 1 _).set 2 _).set 3 _).set 4 _).drew
    have K4 : W4.heap[D]? = some (.deferred (some [])) := by
      have hDl : D < W.heap.size := (Array.getElem?_eq_some_iff.1 HK.out).1
      refine (O4.block D hDl fun e => ?_).trans HK.out
      subst e
      have := HR.out
      unfold Has at this
      rw [this] at HK
      cases HK.out
    have B4 : Below w.heap.size w W4 := HB.out.trans (O4.below HB.out.size fun i hi => by omega)
    have BF : Below w.heap.size w (W4.putObj D (.deferred none)) := B4.trans ((Only.of_grown (S := fun i => i = D) (grownBy_putObj' W4 D (.deferred none)) fun k hk => by cases hk; rfl).below B4.size (fun i hi => by omega))
    have HF : Has (W4.putObj D (.deferred none)) w.heap.size (bV ⟨ue, ug, uk, un, up⟩).toArray 34 := (Only.of_grown (S := fun i => i = D) (grownBy_putObj' W4 D (.deferred none)) fun k hk => by cases hk; rfl).has H4 fun e => by
      subst e
      unfold Has at H4
      rw [H4] at K4
      cases K4
    rw [← hW4]
    have HBF := hid BF
    have HHF := hid HF
    have HK4 := hid K4
    clear hW4 O4 H4 K4 B4 BF HF y0 y1 y2 y3 y4 f0 f1 f2 f3 f4 z0 z1 z2 z3 z4 z5 HB HK HR
    go_wp2_with fail
    refine ⟨by simp, .inl ⟨_, _, rfl, run_takeDeferred HK4.out, ?_⟩⟩
    refine ⟨_, res34 (p := 2) (u := 3) (v := .bool us) rfl ?_ ?_ HHF.out, ?_, HBF.out⟩
    · rfl
    · rfl
    · rw [← HNW.out]
  case stop =>
    rintro D c pre W _ _ h _
    exact h.elim
end Go.Proofs.YtmpgfpmkmgebdaaGreatDoor
