/- SporadicBounds: what its rounds need. -/
import Derived.Test.YtibmmonboeifhaaUw
namespace Go.Proofs.Ytibmmonboeifhaa
open Go.RowKit
set_option linter.unusedVariables false

def encZ (l : List Int) : List Value := l.map fun x => Value.int .i64 x
theorem own_fr {W W' : World} {S : Nat → Prop} {base : Nat} {t : TypeId} {v : Value} {n : Nat} {xs : List Value} (h : W.ownsRow base t 1 v n xs) (hf : Fr S W W') (hS : ∀ k, v.ownBlock = some k → ¬ S k) : W'.ownsRow base t 1 v n xs := by
  refine ⟨h.1, h.2.imp id fun ⟨g, cap, cur, h1, h2, h3, r⟩ => ⟨g, cap, cur, h1, h2, ?_, r⟩⟩
  rw [hf.block g (Array.getElem?_eq_some_iff.1 h3).1 (hS g (by rw [h1]; rfl))]; exact h3
theorem news_row (W : World) (t : TypeId) (cs : List Value) : ∀ j u, cs[j]? = some u → (W.alloc (.cells cs.toArray t)).cell? ((⟨W.heap.size, 0, none⟩ : Addr).add j) = some u := fun j u hj => by
  rw [Addr.add_mid, Nat.zero_add, (RowAt.new W t cs.toArray).cell j]; simpa using hj
/-- What holds at the head of a round of the running loop. -/
structure BD (W0 : World) (B G : Nat) (b p : Int) (n base i : Nat) (s : AQ) (now : Int) (ts : List Int) (v : Value) (W : World) : Prop where
  sm : SumI W0 B G b p n i s now W
  bi : BI s ts
  few : FewI b p ts
  inc : ts.Pairwise (· < ·)
  len : ts.length ≤ i
  rng : ∀ t ∈ ts, 0 ≤ t ∧ t ≤ 51200
  own : W.ownsRow base 2 1 v ts.length (encZ ts)
  b0 : B < base
  g0 : G < base
  w0 : W0.heap.size ≤ base
  le : base ≤ W.heap.size
theorem BD.blk {W0 W : World} {B G n base i : Nat} {b p now : Int} {s : AQ} {ts : List Int} {v : Value} (h : BD W0 B G b p n base i s now ts v W) : ∀ k, v.ownBlock = some k → ¬ (k = B ∨ k = G) := fun k e => by
  have := (h.own.lt k e).1
  have := h.b0
  have := h.g0
  omega
theorem BD.run0 {W0 W : World} {B G n base i : Nat} {b p now : Int} {s : AQ} {ts : List Int} {v : Value} (h : BD W0 B G b p n base i s now ts v W) (hi : i ≤ 200) (hb : (tellA now s).bud = 0) : Calls Try.prog 36 #[.pointer (some ⟨B, 0, none⟩), .int .i64 now] W fun e W' => e = .returned (.int .i64 18) ∧ BD W0 B G b p n base i (tellA now s) now ts v W' := by
  obtain ⟨h1, h2, h3, h4, h5⟩ := h.sm
  obtain ⟨e1, e2⟩ := h2.runF (by omega) hb
  have := run_any h1.ss now
  rw [e1, e2] at this
  exact this.mono fun e W' ⟨he, hs, hf⟩ => ⟨he, ⟨h1.frame hs hf, h2.tell, h3, by rw [tellA_per]; exact h4, by rw [tellA_cap]; exact h5⟩, h.bi.tell h2, h.few, h.inc, h.len, h.rng, own_fr h.own hf h.blk, h.b0, h.g0, h.w0, Nat.le_trans h.le hf.size⟩
theorem BD.run1 {W0 W : World} {B G n base i : Nat} {b p now : Int} {s : AQ} {ts : List Int} {v : Value} (h : BD W0 B G b p n base i s now ts v W) (hi : i ≤ 200) (hb : (tellA now s).bud ≠ 0) : ∃ s', Hid (BI s' (ts ++ [now]) ∧ FewI b p (ts ++ [now]) ∧ (ts ++ [now]).Pairwise (· < ·) ∧ GI b s' (now + 1) ∧ s'.per = p ∧ s'.cap = n) ∧
    Calls Try.prog 36 #[.pointer (some ⟨B, 0, none⟩), .int .i64 now] W fun e W' => e = .returned (.int .i64 0) ∧ LS W0 B G b s' W' ∧ W'.ownsRow base 2 1 v ts.length (encZ ts) ∧ base ≤ W'.heap.size := by
  obtain ⟨h1, h2, h3, h4, h5⟩ := h.sm
  obtain ⟨e1, _⟩ := h2.runT (by omega) hb
  have := run_any h1.ss now
  rw [e1] at this
  obtain ⟨k1, k2⟩ := h.bi.run h2 (by omega) hb
  have hinc : (ts ++ [now]).Pairwise (· < ·) := by
    rw [List.pairwise_append]
    refine ⟨h.inc, List.pairwise_singleton _ _, fun x hx y hy => ?_⟩
    rw [List.mem_singleton.1 hy]
    have := h.bi.1 x hx
    have := h2.ran
    omega
  have hper : (runS now s).per = p ∧ (runS now s).cap = n := by
    rw [(h2.runT (by omega) hb).2]
    split
    · rw [endA_per, endA_cap]; exact ⟨(tellA_per now s).trans h4, (tellA_cap now s).trans h5⟩
    · exact ⟨(tellA_per now s).trans h4, (tellA_cap now s).trans h5⟩
  refine ⟨_, ⟨k1, FewI.snoc h.few hinc (fun a ha => k2 a (by rw [h4]; exact ha)), hinc, h2.ranned (by omega), hper⟩, this.mono fun e W' ⟨he, hs, hf⟩ => ⟨he, h1.frame hs hf, own_fr h.own hf h.blk, Nat.le_trans h.le hf.size⟩⟩
theorem BD.next0 {W0 W : World} {B G n base i : Nat} {b p now z : Int} {s : AQ} {ts : List Int} {v : Value} (h : BD W0 B G b p n base i s now ts v W) (hg : GI b s now) (z0 : 0 ≤ z) (z1 : z < 256) : BD W0 B G b p n base (i + 1) s (now + (1 + z)) ts v W := by
  obtain ⟨h1, h2, h3, h4, h5⟩ := h.sm
  exact ⟨⟨h1, h2.later (by omega), by omega, h4, h5⟩, h.bi, h.few, h.inc, Nat.le_succ_of_le h.len, h.rng, h.own, h.b0, h.g0, h.w0, h.le⟩
theorem BD.next1 {W0 W W1 W2 : World} {B G n base i : Nat} {b p now z : Int} {s s' : AQ} {ts : List Int} {v v' : Value} (h : BD W0 B G b p n base i s now ts v W) (hi : i ≤ 200) (k : BI s' (ts ++ [now]) ∧ FewI b p (ts ++ [now]) ∧ (ts ++ [now]).Pairwise (· < ·) ∧ GI b s' (now + 1) ∧ s'.per = p ∧ s'.cap = n)
    (hl : LS W0 B G b s' W1) (hle : base ≤ W1.heap.size) (ho : W2.ownsRow base 2 1 v' (ts.length + 1) (encZ ts ++ [.int .i64 now])) (hg : (W1.alloc (.cells #[.int .i64 now] 2)).grownBy W2 v.ownBlock) (z0 : 0 ≤ z) (z1 : z < 256) : BD W0 B G b p n base (i + 1) s' (now + (1 + z)) (ts ++ [now]) v' W2 := by
  obtain ⟨k1, k2, k3, k4, k5, k6⟩ := k
  obtain ⟨h1, h2, h3, h4, h5⟩ := h.sm
  have hv : ∀ k, v.ownBlock = some k → base ≤ k := fun k e => (h.own.lt k e).1
  have hf : Fr (fun k => base ≤ k) W1 W2 := (Fr.alloc _ _ _).trans (Fr.grown hg hv)
  have b0 := h.b0
  have g0 := h.g0
  have n0 := h2.n0
  refine ⟨⟨⟨hl.ss.keep hf (by omega) (by omega), hf.below hl.bel hl.bel.size (fun i e => Nat.le_trans h.w0 e), hl.b, hl.g⟩, k4.later (by omega), by omega, k5, k6⟩, k1, k2, k3, by rw [List.length_append, List.length_cons, List.length_nil]; have := h.len; omega, fun t ht => ?_, ?_, h.b0, h.g0, h.w0, Nat.le_trans hle hf.size⟩
  · rcases List.mem_append.1 ht with ht | ht
    · exact h.rng t ht
    · rw [List.mem_singleton.1 ht]; omega
  · rw [List.length_append, List.length_cons, List.length_nil]
    have : encZ (ts ++ [now]) = encZ ts ++ [.int .i64 now] := by simp [encZ]
    rw [this]; exact ho
/-- A slice that holds these numbers. -/
theorem sl_own {w : World} {base n : Nat} {v : Value} {xs : List Int} (h : w.ownsRow base 2 1 v n (encZ xs)) : ∃ a c, v = .slice a xs.length c ∧ (xs = [] ∨ ∃ g, a = some ⟨g, 0, none⟩ ∧ ∀ (j : Nat) (x : Int), xs[j]? = some x → w.cell? ⟨g, j, none⟩ = some (.int .i64 x)) := by
  have hl : xs.length = n := by have := h.1; simpa [encZ] using this
  subst hl
  have hc := fun g (e : v.ownBlock = some g) => h.cells (g := g) e
  rcases h.2 with ⟨rfl, h0⟩ | ⟨g, cap, cur, rfl, _⟩
  · exact ⟨_, _, by rw [h0], .inl (List.length_eq_zero_iff.1 h0)⟩
  · refine ⟨_, _, rfl, .inr ⟨g, rfl, fun j x hj => ?_⟩⟩
    have := hc g rfl j (.int .i64 x) (by simp [encZ, hj])
    rw [Addr.add_mid, Nat.zero_add] at this; exact this
end Go.Proofs.Ytibmmonboeifhaa
