/- InheritMonotone's walk. -/
import Derived.Test.YteikipiigbjgbaaJa
import Derived.Deep.AppendLies
import Derived.Deep.RegionLaw
namespace Go.Proofs.Yteikipiigbjgbaa
open Go.RowKit
set_option linter.unusedVariables false

theorem mem_emb {es : Es} {e : Nat × Nat} : ((e.1 : Int), (e.2 : Int)) ∈ emb es ↔ e ∈ es := by
  constructor
  · intro h
    obtain ⟨f, h1, h2⟩ := List.mem_map.1 h
    simp only [Prod.mk.injEq] at h2
    have : f = e := by
      obtain ⟨f1, f2⟩ := f; obtain ⟨e1, e2⟩ := e
      simp only at h2
      have a : f1 = e1 := by omega
      have b : f2 = e2 := by omega
      rw [a, b]
    rw [← this]; exact h1
  · intro h; exact List.mem_map.2 ⟨e, h, rfl⟩
theorem more_sub {raw : Raw} {es es' : Es} {r : Int × Int} (h : raw = emb es) (h' : raw ++ [r] = emb es') : ∀ e ∈ es, e ∈ es' := fun e he => by
  rw [← mem_emb, ← h', h]; exact List.mem_append_left _ (mem_emb.2 he)
theorem cells_of_edges {w : World} {b off : Nat} {l : Raw} (h : EdgesAt w b off l) : ∀ j u, (encR l)[j]? = some u → w.cell? ((⟨b, off, none⟩ : Addr).add j) = some u := fun j u hj => by
  have hl := (List.getElem?_eq_some_iff.1 hj).1
  rw [encR_len] at hl
  have hx : l[j / 2]? = some l[j / 2] := List.getElem?_eq_getElem (by omega)
  obtain ⟨e1, e2⟩ := encR_get l (j / 2) _ hx
  obtain ⟨c1, c2⟩ := h.2 (j / 2) _ hx
  rw [Addr.add_mid]
  by_cases hm : j % 2 = 0
  · rw [show j / 2 * 2 = j by omega] at e1 c1
    rw [e1] at hj; injection hj with hj; rw [← hj]; exact c1
  · rw [show j / 2 * 2 + 1 = j by omega] at e2
    rw [show off + j / 2 * 2 + 1 = off + j by omega] at c2
    rw [e2] at hj; injection hj with hj; rw [← hj]; exact c2
theorem encR_one (l : Raw) : ∀ u ∈ encR l, u.oneCell' = true := by
  induction l with
  | nil => intro u h; exact nomatch h
  | cons e r ih =>
    intro u h
    rw [encR] at h
    rcases List.mem_cons.1 h with h | h
    · rw [h]; rfl
    · rcases List.mem_cons.1 h with h | h
      · rw [h]; rfl
      · exact ih u h
end Go.Proofs.Yteikipiigbjgbaa
