/- The law of append once more: what stood in the list's cells stands there still. -/
import Derived.Test.YtjhjolnflkekoaaDoorSOwnG
import Derived.Test.YtjhjolnflkekoaaDoorSNum
import Derived.Test.YtjhjolnflkekoaaDoorSSum
import Derived.Deep.RegionHeld3
import Derived.Test.YtjhjolnflkekoaaDoorSRoots
import Derived.Test.YtjhjolnflkekoaaDoorSWords
namespace Go.Proofs.YtjhjolnflkekoaaDoor.S
open Go.RowKit
/-- append onto such a list: the cells that it had stand where they stood -/
theorem run_append_kept {t e : TypeId} {z : Value} {bytes : Nat} (E : Elem t e z bytes) (w : World) (ty : TypeId) (base : Nat) (v : Value) (xs : List Value) (hown : OwnsG e base v xs w)
    (b c : Nat) (news : Array Value) (hnews : Has w b news e) (h1 : ∀ u ∈ news.toList, u.oneCell' = true) (h63 : xs.length + news.size ≤ 1000000000000) (hbase : base ≤ w.heap.size) :
    ∃ v' w', (Builtin.append_ #[t, t] ty #[v, .slice (some ⟨b, 0, none⟩) news.size c]).run Tryd.prog w = .ok v' w' ∧ OwnsG e base v' (xs ++ news.toList) w' ∧ (∀ gg n cc, v = .slice (some ⟨gg, 0, none⟩) n cc → ∀ j, j < xs.length → w'.cell? ⟨gg, j, none⟩ = xs[j]?) ∧ Below base w w' := by
  obtain ⟨i, hi, hz0, hz1, hz2⟩ := E.info
  have hbd := E.hb
  have hbytes : (xs.length + news.size) * bytes ≤ 140737488355328 := Nat.le_trans (Nat.mul_le_mul h63 hbd) (by decide)
  have hnb := World.news_of_block hnews
  rcases hown with ⟨rfl, rfl⟩ | ⟨g, cap, cur, fz, rfl, hbg, hg, hfz, hnc, hcm, hcs, htake⟩
  · obtain ⟨v', w', r1, r2, r3, _⟩ := run_append_own (P := Tryd.prog) w base t ty e i z 1 bytes E.ht hi hz0 hz1 hz2 E.hz (by decide) (.slice none 0 0) 0 [] (World.ownsRow_nil w base e 1) ⟨b, 0, none⟩ news.size c news.toList (by simp) hnb h1 (by unfold maxLen; simp at h63; omega) (by simpa using hbytes) hbase
    refine ⟨v', w', r1, OwnsG.of ?_, fun gg n cc h => by simp at h, (Below.refl base w).grown r3 hbase (fun k hk => by simp [Value.ownBlock] at hk)⟩
    show w'.ownsRow base e 1 v' ([] ++ news.toList).length ([] ++ news.toList)
    simpa using r2
  · by_cases hroom : xs.length + news.size ≤ cap
    · have hf := run_firstCells_some (P := Tryd.prog) w i.size news.size ⟨b, 0, none⟩ news.size c news.toList (by simp [hz1]) hnb
      have hst := run_storeCells_cells (P := Tryd.prog) g xs.length news.toList 0 w
        (fun j hj => by have hj' : j < news.size := by simpa using hj
                        simp [World.cell?, hg]; omega)
        (fun j hj => by have hj' : j < news.size := by simpa using hj
                        have := hfz (xs.length + 0 + j) (by omega)
                        simpa [World.frozen?, hg] using this) h1
      simp only [Nat.add_zero] at hst
      rw [hz1] at hf
      refine ⟨.slice (some ⟨g, 0, none⟩) (xs.length + news.size) cap, w.setCells g xs.length news.toList, ?_, ?_, ?_, ?_⟩
      · simp [Builtin.append_, run_underlying E.ht, sizeOf, typeInfo, hi, Builtin.lenOf, hroom, hf, Addr.add_lit, hz1, hst]
      · have hh := heap_setCells g e fz news.toList xs.length cur.toList w (by simpa using hg) (by simp [hcs]; omega)
        refine .inr ⟨g, cap, _, fz, by simp, hbg, hh, hfz, by simpa using hroom, hcm, by simp [hcs]; omega, ?_⟩
        rw [htake]
        exact List.take_left
      · intro gg n cc hv j hj
        simp only [Value.slice.injEq, Option.some.injEq, Addr.mk.injEq] at hv
        obtain ⟨⟨rfl, _⟩, _, rfl⟩ := hv
        have hh := heap_setCells g e fz news.toList xs.length cur.toList w (by simpa using hg) (by simp [hcs]; omega)
        rw [htake] at hh
        simp only [World.cell?, hh]
        simp [List.getElem?_append_left hj, hj]
      · obtain ⟨a1, a2, a3, a4⟩ := setCells_size g news.toList xs.length w
        exact ⟨a2, a3, a4, Nat.le_of_eq a1.symm, fun k hk => heap_setCells_other g k (by omega) _ _ _⟩
    · have holds : ∀ j u, xs[j]? = some u → w.cell? ((⟨g, 0, none⟩ : Addr).add j) = some u := fun j u hu => by
        have hj : j < xs.length := (List.getElem?_eq_some_iff.1 hu).1
        have hc := OwnsG.cell (e := e) (base := base) (n := xs.length) (cap := cap) (.inr ⟨g, cap, cur, fz, rfl, hbg, hg, hfz, hnc, hcm, hcs, htake⟩) j hj
        rw [Addr.add_mid, Nat.zero_add, hc]; exact hu
      have hr := run_append_grow (P := Tryd.prog) w t ty e i z E.ht hi hz0 ⟨g, 0, none⟩ xs.length cap xs (by simp [hz1]) holds ⟨b, 0, none⟩ news.size c news.toList (by simp [hz1]) hnb (by omega) (by omega) (growslice_fits (by omega) (by rw [hz2]; exact hbytes))
      have hge := grownCap_ge w (xs.length + news.size) cap e
      have hcm2 : grownCap w (xs.length + news.size) cap e ≤ maxLen := grownCap_le_maxLen w (xs.length + news.size) cap e (by unfold maxLen; omega)
      refine ⟨_, _, hr, .inr ⟨w.heap.size, _, _, (0, 0), by simp, hbase, heap_alloc_new w.drew _, fun j _ => by simp, by simpa using hge, hcm2, ?_, ?_⟩, ?_, ⟨rfl, rfl, rfl, by simp, fun k hk => heap_alloc_old w.drew _ (show k < w.drew.heap.size by have : w.drew.heap.size = w.heap.size := rfl; omega)⟩⟩
      · simp [size_zeroCells, E.hz]; omega
      · simp only [Array.toList_append, List.append_assoc]
        rw [← List.append_assoc]
        exact List.take_left
      · intro gg n cc hv j hj
        simp only [Value.slice.injEq, Option.some.injEq, Addr.mk.injEq] at hv
        obtain ⟨⟨rfl, _⟩, _, rfl⟩ := hv
        have hc := OwnsG.cell (e := e) (base := base) (n := xs.length) (cap := cap) (.inr ⟨g, cap, cur, fz, rfl, hbg, hg, hfz, hnc, hcm, hcs, htake⟩) j hj
        rw [← hc]
        exact World.cell?_of_block (heap_alloc_old w.drew _ (show g < w.drew.heap.size from (Array.getElem?_eq_some_iff.1 hg).1))
theorem step_kept {t e : TypeId} {z : Value} {bytes : Nat} (E : Elem t e z bytes) {ops : Array Oper} {o : Oper} {a : Act} {w : World} {K : Act → World → Prop} {Q : Exit → Act → World → Prop} {F : Prop} (hgd : o.guard = none) (s x : Operand)
    (ho : o.op = .call { callee := .builtin .append, args := #[s, x], argTypes := #[t, t] }) (base : Nat) (v : Value) (xs : List Value) (hs : a.eval s = v) (hown : OwnsG e base v xs w)
    (b c : Nat) (news : Array Value) (hx : a.eval x = .slice (some ⟨b, 0, none⟩) news.size c) (hnews : Has w b news e) (h1 : ∀ u ∈ news.toList, u.oneCell' = true) (h63 : xs.length + news.size ≤ 1000000000000) (hbase : base ≤ w.heap.size)
    (h : ∀ v' w', OwnsG e base v' (xs ++ news.toList) w' → (∀ gg n cc, v = .slice (some ⟨gg, 0, none⟩) n cc → ∀ j, j < xs.length → w'.cell? ⟨gg, j, none⟩ = xs[j]?) → Below base w w' → K (a.put o.dst v') w') :
    if Region.wanted o (yielded ops a.tmps) = true then Oper.wp Tryd.prog o a w K Q else F := by
  rw [if_pos (by simp [Region.wanted, hgd])]
  obtain ⟨v', w', hr, h2, h3, h4⟩ := run_append_kept E w o.type base v xs hown b c news hnews h1 h63 hbase
  unfold Oper.wp execOp
  simp only [ho, resolve, invoke, builtin, Sem.run_bind, Sem.run_pure, Result.andThen_ok, List.map_toArray, List.map_cons, List.map_nil, hs, hx, hr]
  exact h v' w' h2 h3 h4
end Go.Proofs.YtjhjolnflkekoaaDoor.S
/- Plain facts: the bytes of a hex of bytes are the bytes, and the hex of a hex's bytes the hex. -/
namespace Go.Proofs.YtjhjolnflkekoaaDoor.S
namespace Sha
end Sha
end Go.Proofs.YtjhjolnflkekoaaDoor.S
/- The document's turn, digits and Hex: their contracts. -/
namespace Go.Proofs.YtjhjolnflkekoaaDoor.S
open Go.RowKit
/-- the document's turn -/
theorem refTurn_any (x : Nat) (n : Int) (w : World) (hx : x < 4294967296) (h1 : 1 ≤ n) (h2 : n ≤ 31) :
    Calls Tryd.prog 59 #[.int .u32 x, .int .u32 n] w fun e w' => e = .returned (.int .u32 (Sha.rotr x n.toNat : Nat)) ∧ w' = w := by
  obtain ⟨m, rfl⟩ := Int.eq_ofNat_of_zero_le (show 0 ≤ n by omega)
  go_enter Tryd.func59, Tryd.ntmps59
  go_wp2
  go_ret
  refine ⟨ret_int ?_, rfl⟩
  have e1 : ((x : Int) * 2 ^ (32 - m) % 4294967296) = ((x * 2 ^ (32 - m) % 4294967296 : Nat) : Int) := by simp
  have e2 : ((x : Int) / 2 ^ m) = ((x / 2 ^ m : Nat) : Int) := by simp
  rw [e1, e2, u32_or_nat _ _ (Nat.lt_of_le_of_lt (Nat.div_le_self _ _) hx) (Nat.mod_lt _ (by decide)), Int.toNat_natCast, Nat.or_comm]
  rfl
theorem conv_nil (w : World) : (convert 51 9 (.slice none 0 0)).run Tryd.prog w = .ok (.string ⟨#[]⟩) w := by kernel_rfl
theorem Owns.has {base g cap n : Nat} {l : List Nat} {w : World} (h : Owns 5 base (.slice (some ⟨g, 0, none⟩) n cap) (U8s l).toList w) : (loadCells ⟨g, 0, none⟩ l.length).run Tryd.prog w = .ok (U8s l) w := by
  have h2 := run_loadCells_list (P := Tryd.prog) w ⟨g, 0, none⟩ (U8s l).toList (fun j v hv => by
    have hj : j < (U8s l).toList.length := (List.getElem?_eq_some_iff.1 hv).1
    rw [Addr.add_mid, Nat.zero_add, h.cell j hj]; exact hv)
  rw [Array.length_toList, U8s_size] at h2
  rw [h2]
end Go.Proofs.YtjhjolnflkekoaaDoor.S
/- A block's 64 numbers one by one; cells that stand below. -/
namespace Go.Proofs.YtjhjolnflkekoaaDoor.S
open Go.RowKit
/-- the first i of a block's numbers -/
def wsTo (b : List Nat) (i : Nat) : List Nat := (Sha.ws b).take i
theorem growN_get (n : Nat) (l : List Nat) (i : Nat) (h : i < l.length) : (Sha.growN n l).getD i 0 = l.getD i 0 := by
  induction n with
  | zero => rfl
  | succ n ih =>
    rw [← ih, Sha.growN, Sha.grow, List.getD_eq_getElem?_getD, List.getElem?_append_left (by rw [Sha.growN_length]; omega), ← List.getD_eq_getElem?_getD]
theorem growN_add (n m : Nat) (l : List Nat) : Sha.growN (n + m) l = Sha.growN m (Sha.growN n l) := by
  induction m with
  | zero => rfl
  | succ m ih => rw [Nat.add_succ, Sha.growN, ih]; rfl
theorem firstWs_get (b : List Nat) (n k : Nat) (h : k < n) : (Sha.firstWs b n).getD k 0 = Sha.word b k := by
  rw [List.getD_eq_getElem?_getD]
  simp [Sha.firstWs, h]
theorem ws_low (b : List Nat) (k : Nat) (h : k < 16) : (Sha.ws b).getD k 0 = Sha.word b k :=
  Eq.trans (growN_get 48 (Sha.firstWs b 16) k (by rw [Sha.firstWs_length]; exact h)) (firstWs_get b 16 k h)
def nxt (L : List Nat) : Nat := Sha.nextW (L.getD (L.length - 16) 0) (L.getD (L.length - 7) 0) (L.getD (L.length - 15) 0) (L.getD (L.length - 2) 0)
theorem grow_nxt (L : List Nat) : Sha.grow L = L ++ [nxt L] := rfl
theorem nxt_at (L : List Nat) (n : Nat) (hn : L.length = n + 16) : nxt L = Sha.nextW (L.getD n 0) (L.getD (n + 9) 0) (L.getD (n + 1) 0) (L.getD (n + 14) 0) := by
  have h1 : L.length - 16 = n := by omega
  have h2 : L.length - 7 = n + 9 := by omega
  have h3 : L.length - 15 = n + 1 := by omega
  have h4 : L.length - 2 = n + 14 := by omega
  unfold nxt
  rw [h1, h2, h3, h4]
theorem app_at (L : List Nat) (x n : Nat) (hn : L.length = n) : (L ++ [x]).getD n 0 = x := by
  subst hn; simp
theorem app_old (L : List Nat) (x i : Nat) (hn : i < L.length) : (L ++ [x]).getD i 0 = L.getD i 0 := by
  rw [List.getD_eq_getElem?_getD, List.getElem?_append_left hn, ← List.getD_eq_getElem?_getD]
theorem grow_at (L : List Nat) (n : Nat) (hn : L.length = n + 16) : (Sha.grow L).getD (n + 16) 0 = Sha.nextW (L.getD n 0) (L.getD (n + 9) 0) (L.getD (n + 1) 0) (L.getD (n + 14) 0) := by
  rw [grow_nxt, app_at _ _ _ hn, nxt_at L n hn]
theorem grow_old (L : List Nat) (i : Nat) (hi : i < L.length) : (Sha.grow L).getD i 0 = L.getD i 0 := by
  rw [grow_nxt, app_old _ _ _ hi]
theorem growN_high (l : List Nat) (hl : l.length = 16) (n m : Nat) (h : n < m) : (Sha.growN m l).getD (n + 16) 0 = Sha.nextW ((Sha.growN m l).getD n 0) ((Sha.growN m l).getD (n + 9) 0) ((Sha.growN m l).getD (n + 1) 0) ((Sha.growN m l).getD (n + 14) 0) := by
  have hm : m = (n + 1) + (m - n - 1) := by omega
  have hn : (Sha.growN n l).length = n + 16 := by rw [Sha.growN_length, hl]; omega
  have hg : (Sha.growN (n + 1) l).length = n + 17 := by rw [Sha.growN_length, hl]; omega
  have e : ∀ i, i < n + 17 → (Sha.growN m l).getD i 0 = (Sha.growN (n + 1) l).getD i 0 := fun i hi => by
    rw [hm, growN_add (n + 1)]; exact growN_get _ _ _ (by rw [hg]; exact hi)
  have e2 : ∀ i, i < n + 16 → (Sha.growN m l).getD i 0 = (Sha.growN n l).getD i 0 := fun i hi => by
    rw [e i (by omega)]; exact grow_old _ _ (by rw [hn]; exact hi)
  rw [e _ (by omega), e2 n (by omega), e2 (n + 9) (by omega), e2 (n + 1) (by omega), e2 (n + 14) (by omega)]
  exact grow_at _ n hn
theorem ws_high (b : List Nat) (n : Nat) (h : n < 48) : (Sha.ws b).getD (n + 16) 0 = Sha.nextW ((Sha.ws b).getD n 0) ((Sha.ws b).getD (n + 9) 0) ((Sha.ws b).getD (n + 1) 0) ((Sha.ws b).getD (n + 14) 0) :=
  growN_high _ (Sha.firstWs_length b 16) n 48 h
theorem wsTo_length (b : List Nat) (k : Nat) (h : k ≤ 64) : (wsTo b k).length = k := by unfold wsTo; rw [List.length_take, Sha.ws_length]; omega
theorem wsTo_get (b : List Nat) (k i : Nat) (h : i < k) : (wsTo b k).getD i 0 = (Sha.ws b).getD i 0 := by
  unfold wsTo; rw [List.getD_eq_getElem?_getD, List.getElem?_take, if_pos h, ← List.getD_eq_getElem?_getD]
theorem wsTo_succ (b : List Nat) (k : Nat) (h : k < 64) : wsTo b k ++ [(Sha.ws b).getD k 0] = wsTo b (k + 1) := take_app _ _ (by rw [Sha.ws_length]; exact h)
theorem ws_all (b : List Nat) (hbb : ∀ x ∈ b, x < 256) : ∀ x ∈ Sha.ws b, x < 4294967296 := growN_lt _ _ (firstWs_lt b hbb _)
theorem cell_below {w W : World} {N g i : Nat} {v : Option Value} (hb : Below N w W) (hg : g < N) (h : w.cell? ⟨g, i, none⟩ = v) : W.cell? ⟨g, i, none⟩ = v := by
  rw [← h]; unfold World.cell?; rw [hb.block g hg]
end Go.Proofs.YtjhjolnflkekoaaDoor.S
