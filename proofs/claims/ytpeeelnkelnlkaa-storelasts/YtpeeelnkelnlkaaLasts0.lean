/- StoreLasts: what the walk leans on. -/
import Derived.Test.YtpeeelnkelnlkaaFrom
import Derived.Test.YtpeeelnkelnlkaaWorks
namespace Go.Proofs.Ytpeeelnkelnlkaa
open Go.RowKit Go.Maps
/-- objects that can be read -/
def Obs (W : World) (v : Value) (M : List Ob) : Prop := ((∃ A c, v = .slice A 0 c ∧ M = []) ∨ ∃ g o cap, v = .slice (some ⟨g, o, none⟩) M.length cap ∧ g < W.heap.size ∧ ∀ (j : Nat) p, M[j]? = some p → W.cell? ⟨g, o + j * 2, none⟩ = some (.string p.1) ∧ W.cell? ⟨g, o + j * 2 + 1, none⟩ = some (.string p.2)) ∧ M.length ≤ 9223372036854775807 ∧ ∀ p ∈ M, p.2.size ≤ 140737488355328
theorem Obs.form {W : World} {v : Value} {M : List Ob} (h : Obs W v M) : ∃ a c, v = .slice a M.length c := by
  rcases h.1 with ⟨A, c, rfl, rfl⟩ | ⟨g, o, cap, rfl, _⟩
  · exact ⟨_, _, rfl⟩
  · exact ⟨_, _, rfl⟩
theorem Obs.at {W W' : World} {a : Option Addr} {M : List Ob} {c : Nat} (h : Obs W (.slice a M.length c) M) (hb : Below W.heap.size W W') {k : Nat} {p : Ob} (hp : M[k]? = some p) : ∃ g o, a = some ⟨g, o, none⟩ ∧ W'.cell? ⟨g, o + k * 2, none⟩ = some (.string p.1) ∧ W'.cell? ⟨g, o + k * 2 + 1, none⟩ = some (.string p.2) := by
  rcases h.1 with ⟨_, _, _, h0⟩ | ⟨g, o, cap, e, hg, hc⟩
  · rw [h0] at hp; simp at hp
  · cases e
    obtain ⟨h1, h2⟩ := hc k p hp
    exact ⟨g, o, rfl, by rw [hb.cell (p := ⟨g, o + k * 2, none⟩) hg]; exact h1, by rw [hb.cell (p := ⟨g, o + k * 2 + 1, none⟩) hg]; exact h2⟩
theorem Acts.at {W W' : World} {a : Option Addr} {l : List Ac} {c : Nat} (h : Acts W (.slice a l.length c) l) (hb : Below W.heap.size W W') {k : Nat} {x : Ac} (hx : l[k]? = some x) : ∃ g o, a = some ⟨g, o, none⟩ ∧ W'.cell? ⟨g, o + k * 9, none⟩ = some (.int .u8 (x.kind : Int)) ∧ W'.cell? ⟨g, o + k * 9 + 1, none⟩ = some (.string x.name) ∧ W'.cell? ⟨g, o + k * 9 + 2, none⟩ = some (.string x.data) := by
  rcases h.1 with ⟨_, _, _, h0⟩ | ⟨g, o, cap, e, _, hg, hc⟩
  · rw [h0] at hx; simp at hx
  · cases e
    exact ⟨g, o, rfl, by rw [hb.cell (p := ⟨g, o + k * 9, none⟩) hg]; exact hc k x hx 0 _ rfl, by rw [hb.cell (p := ⟨g, o + k * 9 + 1, none⟩) hg]; exact hc k x hx 1 _ rfl, by rw [hb.cell (p := ⟨g, o + k * 9 + 2, none⟩) hg]; exact hc k x hx 2 _ rfl⟩
def acOf (p : Ob) : Ac := ⟨0, p.1, p.2, .nilFunc, [], 0, 0, 0, 0, 0⟩
theorem act_of (s : St) (p : Ob) : actS s (acOf p) = putS s p.1 p.2 := rfl
theorem Behind.sync {A : List Ob} {l : List Ac} {s : St} (h : Behind A l s) : Behind s.seen [] { s with writes := [] } := ⟨h.down, h.refuse, h.room, Chain.nil, fun q hq => (by cases hq), fun hl => ⟨(h.live hl).1, rfl⟩⟩
theorem Behind.syncs {A : List Ob} {l : List Ac} {s : St} (h : Behind A l s) : Ytpeeelnkelnlkaa.sync s = (0, { s with writes := [] }) := by
  unfold Ytpeeelnkelnlkaa.sync; rw [h.down]; rfl
theorem Behind.start : Behind [] [] st0 := ⟨rfl, rfl, rfl, Chain.nil, fun q hq => (by cases hq), fun _ => ⟨rfl, rfl⟩⟩
theorem Fit.sync {N : Nat} {s : St} (h : Fit N s) : Fit N { s with writes := [] } := ⟨h.seen, Nat.zero_le _, h.names, h.datas, fun q hq => (by cases hq), fun q hq => (by cases hq), fun q hq => (by cases hq), h.refuse, h.room⟩
theorem act_fit {N : Nat} {s : St} (hF : Fit N s) (x : Ac) : Fit (N + 1) (actS s x).2 := by
  unfold actS
  split
  · exact put_fit hF _ _
  · exact del_fit hF _
theorem Env.rising {w0 w : World} {l : List (Nat × St)} {rs : List (Value × List Ob)} (h : Env w0 w l rs) (j : Nat) {b : Nat} {s : St} (hj : l[j]? = some (b, s)) : Rising s.seen := by
  obtain ⟨S, h1, _⟩ := h.call j hj
  obtain ⟨mo, wv, _, hM, _⟩ := h1
  exact hM.rising
/-- .. and a block of cells beside them -/
def EnvB (w0 w : World) (l : List (Nat × St)) (rs : List (Value × List Ob)) (g : Nat) (cs : Array Value) (t : TypeId) : Prop := ∃ F, StsF w0 w l F ∧ (∀ r ∈ rs, w.ownsRow 0 28 2 r.1 r.2.length (objCells r.2) ∧ ∀ g, r.1.ownBlock = some g → ∀ j, j < l.length → ¬ F j g) ∧ (∀ j, j < l.length → ¬ F j g) ∧ Has w g cs t
theorem Env.box {w0 w w' : World} {l : List (Nat × St)} {rs : List (Value × List Ob)} (h : Env w0 w l rs) (hb : Below w.heap.size w w') {cs : Array Value} {t : TypeId} (hh : Has w' w.heap.size cs t) : EnvB w0 w' l rs w.heap.size cs t := by
  obtain ⟨F, h1, h2⟩ := h
  exact ⟨F, h1.below hb, fun r hr => ⟨row_below (h2 r hr).1 hb, (h2 r hr).2⟩, fun j hj hF => by have := h1.lt hj hF; omega, hh⟩
theorem EnvB.env {w0 w : World} {l : List (Nat × St)} {rs : List (Value × List Ob)} {g : Nat} {cs : Array Value} {t : TypeId} (h : EnvB w0 w l rs g cs t) : Env w0 w l rs := by
  obtain ⟨F, h1, h2, _⟩ := h; exact ⟨F, h1, h2⟩
theorem EnvB.call {w0 w : World} {l : List (Nat × St)} {rs : List (Value × List Ob)} {g : Nat} {cs : Array Value} {t : TypeId} (h : EnvB w0 w l rs g cs t) (j : Nat) {b : Nat} {s : St} (hj : l[j]? = some (b, s)) : ∃ S, IsSt w S b s ∧ ¬ S g ∧ Has w g cs t ∧ ∀ w' s', After w w' S b s' → EnvB w0 w' (l.set j (b, s')) rs g cs t := by
  obtain ⟨F, h1, h2, h3, h4⟩ := h
  have hjl : j < l.length := (List.getElem?_eq_some_iff.1 hj).1
  obtain ⟨k1, k2, k3⟩ := h1.call j hj
  refine ⟨F j, k1, h3 j hjl, h4, fun w' s' ha => ?_⟩
  obtain ⟨F', k4, k5⟩ := k3 w' s' ha
  obtain ⟨_, _, _, hO⟩ := ha
  refine ⟨F', k4, fun r hr => ⟨row_block (h2 r hr).1 fun g hg hl => hO.block g hl ((h2 r hr).2 g hg j hjl), fun g hg k hk hF => ?_⟩, fun k hk hF => ?_, hO.has h4 (h3 j hjl)⟩
  · rw [List.length_set] at hk
    rcases k5 k g hF with h | h
    · exact (h2 r hr).2 g hg k hk h
    · have := (row_lt (h2 r hr).1 hg).2; omega
  · rw [List.length_set] at hk
    have := h4.lt
    rcases k5 k g hF with h | h
    · exact h3 k hk h
    · omega
/-- nothing is kept -/
theorem EnvB.crash0 {w0 w : World} {l : List (Nat × St)} {rs : List (Value × List Ob)} {g : Nat} {cs : Array Value} {t : TypeId} (h : EnvB w0 w l rs g cs t) (j : Nat) {b : Nat} {s : St} (hj : l[j]? = some (b, s)) {N : Nat} (hF : Fit N s) (hN : N ≤ 400000) (hlv : s.writes ≠ [] → s.live = true) : Calls Try.prog 30 #[ptr b, .slice none 0 0] w fun x w' => x = .returned (.int .i64 0) ∧ EnvB w0 w' (l.set j (b, crashS s [])) rs g cs t := by
  obtain ⟨S, h1, _, _, h2⟩ := h.call j hj
  exact (crash_any h1 hF hN hlv (.slice none 0 0) [] (.inl ⟨none, 0, rfl, rfl⟩) (by simp) (fun g o n c hh _ => by cases hh)).mono fun x w' ⟨e, h3⟩ => ⟨e, h2 _ _ h3⟩
/-- what is kept is the block -/
theorem EnvB.crash {w0 w : World} {l : List (Nat × St)} {rs : List (Value × List Ob)} {g : Nat} {ks : List Int} {t : TypeId} (h : EnvB w0 w l rs g (ks.map (Value.int .i64)).toArray t) (j : Nat) {b : Nat} {s : St} (hj : l[j]? = some (b, s)) {N : Nat} (hF : Fit N s) (hN : N ≤ 400000) (hlv : s.writes ≠ [] → s.live = true) (hkl : ks.length ≤ 9223372036854775807) (c : Nat) : Calls Try.prog 30 #[ptr b, .slice (some ⟨g, 0, none⟩) ks.length c] w fun x w' => x = .returned (.int .i64 0) ∧ Env w0 w' (l.set j (b, crashS s ks)) rs := by
  obtain ⟨S, h1, hg, hh, h2⟩ := h.call j hj
  refine (crash_any h1 hF hN hlv _ ks ?_ hkl ?_).mono fun x w' ⟨e, h3⟩ => ⟨e, (h2 _ _ h3).env⟩
  · cases ks with
    | nil => exact .inl ⟨_, _, rfl, rfl⟩
    | cons k0 kr =>
      refine .inr ⟨g, 0, c, by simp, rfl, hh.lt, fun j z hz => ?_⟩
      have := hh.range j (.int .i64 z) (by rw [List.toList_toArray, List.getElem?_map, hz]; rfl)
      simpa using this
  · intro g' o n c' e _
    cases e; exact hg
theorem Env.crashK {w0 w : World} {l : List (Nat × St)} {rs : List (Value × List Ob)} (h : Env w0 w l rs) (j : Nat) {b : Nat} {s : St} (hj : l[j]? = some (b, s)) {N : Nat} (hF : Fit N s) (hN : N ≤ 400000) (hlv : s.writes ≠ [] → s.live = true) {w00 : World} (hw : Below w00.heap.size w00 w0) {kv : Value} {ks : List Int} (hk : RdI w00 kv ks) (hkl : ks.length ≤ 9223372036854775807) : Calls Try.prog 30 #[ptr b, kv] w fun x w' => x = .returned (.int .i64 0) ∧ Env w0 w' (l.set j (b, crashS s ks)) rs := h.crash j hj hF hN hlv (hk.below hw) hkl
theorem crash_fit {N : Nat} {s : St} (hF : Fit N s) (ks : List Int) {A : List Ob} {l : List Ac} (hB : Behind A l s) (hA : Rising A) (hAN : A.length ≤ N) (hAn : ∀ p ∈ A, p.1.size ≤ 80 ∧ p.2.size ≤ 65536) : Fit (N + N) (crashS s ks) := by
  have e : (crashS s ks).seen = redo s.writes ks A s.writes.length := by
    show redo s.writes ks (undo s.seen s.writes.reverse) s.writes.length = _
    rw [hB.chain.undo hA]
  have hm : ∀ p ∈ (crashS s ks).seen, p.1.size ≤ 80 ∧ p.2.size ≤ 65536 := fun p hp => by
    rw [e] at hp
    rcases redo_from _ _ _ _ p hp with h1 | ⟨q, hq, h1, d, h2, h3, h4⟩
    · exact hAn p h1
    · have := hF.wnames q hq
      have h5 := hF.now q hq
      rw [h2] at h5
      have h6 : d.size ≤ 65536 := h5
      exact ⟨by rw [← h1]; exact this, by omega⟩
  refine ⟨?_, Nat.zero_le _, fun p hp => (hm p hp).1, fun p hp => (hm p hp).2, fun q hq => (by cases hq), fun q hq => (by cases hq), fun q hq => (by cases hq), hF.refuse, hF.room⟩
  rw [e]
  have := redo_le s.writes ks A s.writes.length
  have := hF.writes
  omega
end Go.Proofs.Ytpeeelnkelnlkaa
