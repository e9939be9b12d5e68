/- InheritLimits, plain: the graph that it makes. -/
import Derived.Test.YteikipiigbjgbaaGx
namespace Go.Proofs.Yteikipiigbjgbaa
open Go.RowKit
set_option linter.unusedVariables false

def limB (k : Nat) : List Int := (List.range k).map fun i : Nat => ((i % 256 : Nat) : Int)
def limAt (i : Nat) : Int × Int := (((i % 249 : Nat) : Int), (((i + i / 249 + 1) % 249 : Nat) : Int))
def limE (k : Nat) : Raw := (List.range k).map limAt
theorem limB_len (k : Nat) : (limB k).length = k := by simp [limB]
theorem limE_len (k : Nat) : (limE k).length = k := by simp [limE]
theorem limB_succ (k : Nat) : limB (k + 1) = limB k ++ [((k % 256 : Nat) : Int)] := by simp [limB, List.range_succ]
theorem limE_succ (k : Nat) : limE (k + 1) = limE k ++ [limAt k] := by simp [limE, List.range_succ]
theorem limAt_inj {i j : Nat} (hi : i < 2000) (hj : j < 2000) (h : limAt i = limAt j) : i = j := by
  simp only [limAt, Prod.mk.injEq] at h
  omega
theorem limE_nodup {k : Nat} (hk : k ≤ 2000) : (limE k).Pairwise (· ≠ ·) := by
  unfold limE
  rw [List.pairwise_map]
  refine List.Pairwise.imp_of_mem (R := (· ≠ ·)) (fun {a b} ha hb hne e => hne (limAt_inj ?_ ?_ e)) List.nodup_range
  · have := List.mem_range.1 ha; omega
  · have := List.mem_range.1 hb; omega
theorem chkE_zero {n : Nat} : ∀ (raw ks : Raw), (∀ e ∈ raw, joinsB n e = true) → raw.Pairwise (· ≠ ·) → (∀ e ∈ raw, e ∉ ks) → chkE n raw ks = 0
  | [], _, _, _, _ => rfl
  | e :: r, ks, h1, h2, h3 => by
    rw [chkE, if_pos (h1 e (List.mem_cons_self ..)), if_neg (h3 e (List.mem_cons_self ..))]
    rw [List.pairwise_cons] at h2
    refine chkE_zero r _ (fun f hf => h1 f (List.mem_cons_of_mem _ hf)) h2.2 (fun f hf hm => ?_)
    rcases List.mem_append.1 hm with hm | hm
    · exact h3 f (List.mem_cons_of_mem _ hf) hm
    · rw [List.mem_singleton] at hm; exact h2.1 f hf hm.symm
theorem lim_chk {n m : Nat} (hn : 250 ≤ n) : chkG (limB n) (limE m) = if 256 < n ∨ 2000 < m then 18 else 0 := by
  unfold chkG
  rw [limB_len, limE_len]
  by_cases h : 256 < n ∨ 2000 < m
  · rw [if_pos h, if_pos h]
  · rw [if_neg h, if_neg h]
    have hp : (limB n).all isPri = true := by
      rw [List.all_eq_true]
      intro x hx
      obtain ⟨i, _, rfl⟩ := List.mem_map.1 hx
      rw [isPri_iff]; omega
    rw [if_pos hp]
    refine chkE_zero _ _ (fun e he => ?_) (limE_nodup (by omega)) (fun _ _ h => nomatch h)
    obtain ⟨i, _, rfl⟩ := List.mem_map.1 he
    simp only [limAt, joinsB, Bool.and_eq_true, thr_iff]
    omega
/-- Edges, as cells. -/
def encR : Raw → List Value
  | [] => []
  | e :: r => .int .i64 e.1 :: .int .i64 e.2 :: encR r
theorem encR_len : ∀ l, (encR l).length = l.length * 2
  | [] => rfl
  | e :: r => by rw [encR, List.length_cons, List.length_cons, encR_len r, List.length_cons]; omega
theorem encR_app : ∀ l m, encR (l ++ m) = encR l ++ encR m
  | [], m => rfl
  | e :: r, m => by rw [List.cons_append, encR, encR_app r m]; rfl
theorem encR_get : ∀ (l : Raw) (i : Nat) (x : Int × Int), l[i]? = some x → (encR l)[i * 2]? = some (.int .i64 x.1) ∧ (encR l)[i * 2 + 1]? = some (.int .i64 x.2)
  | [], i, x, h => by simp at h
  | y :: r, 0, x, h => by simp at h; subst h; exact ⟨rfl, rfl⟩
  | y :: r, i + 1, x, h => by
    have := encR_get r i x (by simpa using h)
    rw [encR, show (i + 1) * 2 = i * 2 + 2 from by omega]
    simpa using this
theorem info_edge : (Try.prog.info? 36).map (fun i => (i.zero, i.size, i.bytes)) = some (some (.agg #[.int .i64 0, .int .i64 0]), 2, 16) := by kernel_rfl
theorem own_edges {W : World} {lo n : Nat} {v : Value} {l : Raw} (h : W.ownsRow lo 36 2 v n (encR l)) : ∃ a cap, v = .slice a n cap ∧ n = l.length ∧ EdgesIn W a l := by
  have hn : n = l.length := by have := h.1; rw [encR_len] at this; omega
  have hc := fun g (e : v.ownBlock = some g) => h.cells (g := g) e
  rcases h.2 with ⟨rfl, h0⟩ | ⟨g, cap, cur, rfl, h2, h3, _⟩
  · exact ⟨none, 0, by rw [h0], hn, .inl (List.length_eq_zero_iff.1 (by omega))⟩
  · refine ⟨some ⟨g, 0, none⟩, cap, rfl, hn, .inr ⟨g, 0, rfl, (Array.getElem?_eq_some_iff.1 h3).1, fun i x hx => ?_⟩⟩
    obtain ⟨e1, e2⟩ := encR_get l i x hx
    have a1 := hc g rfl _ _ e1
    have a2 := hc g rfl _ _ e2
    rw [Addr.add_mid, Nat.zero_add] at a1 a2
    rw [Nat.zero_add]
    exact ⟨a1, a2⟩
end Go.Proofs.Yteikipiigbjgbaa
