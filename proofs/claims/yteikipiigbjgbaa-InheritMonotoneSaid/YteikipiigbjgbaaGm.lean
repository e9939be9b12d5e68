/- Plain: the worklist of effective. -/
import Derived.Test.YteikipiigbjgbaaGa
namespace Go.Proofs.Yteikipiigbjgbaa
set_option linter.unusedVariables false

def pot (n : Nat) (p : Nat → Int) : Nat := ((List.range n).map fun i => (255 - p i).toNat).sum
theorem pot_aux (p : Nat → Int) (h : Nat) (v : Int) : ∀ n, pot n (upI p h v) + (if h < n then (255 - p h).toNat else 0) = pot n p + (if h < n then (255 - v).toNat else 0)
  | 0 => rfl
  | n + 1 => by
    have ih := pot_aux p h v n
    unfold pot at ih ⊢
    rw [List.range_succ, List.map_append, List.map_append, List.sum_append, List.sum_append, List.map_singleton, List.map_singleton, List.sum_singleton, List.sum_singleton]
    by_cases e : n = h
    · subst e
      rw [if_neg (Nat.lt_irrefl _), if_neg (Nat.lt_irrefl _)] at ih
      rw [if_pos (by omega), if_pos (by omega), upI_same]; omega
    · rw [upI_other e]
      by_cases hn : h < n
      · rw [if_pos hn, if_pos hn] at ih
        rw [if_pos (by omega), if_pos (by omega)]; omega
      · rw [if_neg hn, if_neg hn] at ih
        rw [if_neg (by omega), if_neg (by omega)]; omega
theorem pot_up {n h : Nat} {p : Nat → Int} {v : Int} (hn : h < n) (h1 : p h < v) (h2 : v ≤ 255) : pot n (upI p h v) + 1 ≤ pot n p := by
  have := pot_aux p h v n
  rw [if_pos hn, if_pos hn] at this; omega
theorem pot_le {p : Nat → Int} : ∀ n, (∀ i, i < n → 0 ≤ p i) → pot n p ≤ 255 * n
  | 0, _ => Nat.le_refl _
  | n + 1, h => by
    have ih := pot_le n (fun i hi => h i (by omega))
    have := h n (by omega)
    unfold pot at ih ⊢
    rw [List.range_succ, List.map_append, List.sum_append, List.map_singleton, List.sum_singleton]; omega

/-- What holds of the priorities while there is work; x is being done: rest is still to be raised. -/
structure Wl (n : Nat) (b : Nat → Int) (es : Es) (dn : List Nat) (p : Nat → Int) (q : List Nat) (x : Nat) (rest : List Nat) : Prop where
  ge : ∀ i, i < n → b i ≤ p i
  why : ∀ i, i < n → ∃ j, j < n ∧ Reach es j i ∧ p i = b j
  qn : ∀ y ∈ q, y < n
  rel : ∀ e ∈ es, (e.1 ∈ dn ∨ b e.1 < p e.1) → e.1 ∈ q ∨ p e.1 ≤ p e.2 ∨ (e.1 = x ∧ e.2 ∈ rest)
theorem Wl.le {n : Nat} {b : Nat → Int} {es : Es} {dn : List Nat} {p : Nat → Int} {q : List Nat} {x : Nat} {rest : List Nat} (h : Wl n b es dn p q x rest) (hb : ∀ i, i < n → 0 ≤ b i ∧ b i ≤ 255) (i : Nat) (hi : i < n) : 0 ≤ p i ∧ p i ≤ 255 := by
  obtain ⟨j, j1, _, j3⟩ := h.why i hi
  rw [j3]; exact hb j j1
theorem Wl.start {n : Nat} {b : Nat → Int} {es : Es} {x : Nat} : Wl n b es [] b [] x [] :=
  ⟨fun _ _ => Int.le_refl _, fun i hi => ⟨i, hi, .refl _, rfl⟩, (fun _ h => nomatch h), fun e _ h => by rcases h with h | h; exact nomatch h; omega⟩
theorem Wl.push {n : Nat} {b : Nat → Int} {es : Es} {dn : List Nat} {p : Nat → Int} {q : List Nat} {x y : Nat} (h : Wl n b es dn p q x []) {t : Nat} (ht : t < n) : Wl n b es (dn ++ [t]) p (q ++ [t]) y [] := by
  refine ⟨h.ge, h.why, fun z hz => ?_, fun e he hc => ?_⟩
  · rcases List.mem_append.1 hz with hz | hz
    · exact h.qn z hz
    · rw [List.mem_singleton] at hz; subst hz; exact ht
  · by_cases e1 : e.1 = t
    · exact .inl (List.mem_append_right _ (by rw [e1]; exact List.mem_singleton.2 rfl))
    · have hc' : e.1 ∈ dn ∨ b e.1 < p e.1 := by
        rcases hc with hc | hc
        · rcases List.mem_append.1 hc with hc | hc
          · exact .inl hc
          · exact absurd (List.mem_singleton.1 hc) e1
        · exact .inr hc
      rcases h.rel e he hc' with r | r | ⟨_, r⟩
      · exact .inl (List.mem_append_left _ r)
      · exact .inr (.inl r)
      · exact nomatch r
theorem Wl.pop {n : Nat} {b : Nat → Int} {es : Es} {dn : List Nat} {p : Nat → Int} {q : List Nat} {x y : Nat} (h : Wl n b es dn p (q ++ [x]) y []) : Wl n b es dn p q x (outs es x) := by
  refine ⟨h.ge, h.why, fun z hz => h.qn z (List.mem_append_left _ hz), fun e he hc => ?_⟩
  rcases h.rel e he hc with r | r | ⟨_, r⟩
  · rcases List.mem_append.1 r with r | r
    · exact .inl r
    · rw [List.mem_singleton] at r
      exact .inr (.inr ⟨r, mem_outs.2 (by rw [← r]; exact he)⟩)
  · exact .inr (.inl r)
  · exact nomatch r
theorem Wl.no {n : Nat} {b : Nat → Int} {es : Es} {dn : List Nat} {p : Nat → Int} {q : List Nat} {x h : Nat} {rest : List Nat} (w : Wl n b es dn p q x (h :: rest)) (hn : ¬ p h < p x) : Wl n b es dn p q x rest := by
  refine ⟨w.ge, w.why, w.qn, fun e he hc => ?_⟩
  rcases w.rel e he hc with r | r | ⟨r1, r2⟩
  · exact .inl r
  · exact .inr (.inl r)
  · rcases List.mem_cons.1 r2 with r2 | r2
    · refine .inr (.inl ?_); rw [r1, r2]; omega
    · exact .inr (.inr ⟨r1, r2⟩)
theorem Wl.yes {n : Nat} {b : Nat → Int} {es : Es} {dn : List Nat} {p : Nat → Int} {q : List Nat} {x h : Nat} {rest : List Nat} (w : Wl n b es dn p q x (h :: rest)) (hx : x < n) (hh : h < n) (hxh : (x, h) ∈ es) (hlt : p h < p x) : Wl n b es dn (upI p h (p x)) (q ++ [h]) x rest := by
  have hne : x ≠ h := fun e => by rw [e] at hlt; omega
  have mono : ∀ i, p i ≤ upI p h (p x) i := fun i => by
    by_cases e : i = h
    · subst e; rw [upI_same]; omega
    · rw [upI_other e]; exact Int.le_refl _
  refine ⟨fun i hi => Int.le_trans (w.ge i hi) (mono i), fun i hi => ?_, fun z hz => ?_, fun e he hc => ?_⟩
  · by_cases e : i = h
    · subst e
      obtain ⟨j, j1, j2, j3⟩ := w.why x hx
      exact ⟨j, j1, j2.snoc hxh, by rw [upI_same, j3]⟩
    · rw [upI_other e]; exact w.why i hi
  · rcases List.mem_append.1 hz with hz | hz
    · exact w.qn z hz
    · rw [List.mem_singleton] at hz; subst hz; exact hh
  · by_cases e1 : e.1 = h
    · exact .inl (List.mem_append_right _ (by rw [e1]; exact List.mem_singleton.2 rfl))
    · rw [upI_other e1] at hc ⊢
      rcases w.rel e he hc with r | r | ⟨r1, r2⟩
      · exact .inl (List.mem_append_left _ r)
      · exact .inr (.inl (Int.le_trans r (mono _)))
      · rcases List.mem_cons.1 r2 with r2 | r2
        · refine .inr (.inl ?_); rw [r2, r1, upI_same]; exact Int.le_refl _
        · exact .inr (.inr ⟨r1, r2⟩)
theorem Wl.any {n : Nat} {b : Nat → Int} {es : Es} {dn : List Nat} {p : Nat → Int} {q : List Nat} {x y : Nat} (w : Wl n b es dn p q x []) : Wl n b es dn p q y [] :=
  ⟨w.ge, w.why, w.qn, fun e he hc => by
    rcases w.rel e he hc with r | r | ⟨_, r⟩
    · exact .inl r
    · exact .inr (.inl r)
    · cases r⟩
theorem Wl.done {n : Nat} {b : Nat → Int} {es : Es} {dn : List Nat} {p : Nat → Int} {x : Nat} (w : Wl n b es dn p [] x []) (hv : Val n es) (hd : ∀ i, i < n → i ∈ dn) : IsEff n b es p :=
  ⟨w.ge, fun e he => (by
    rcases w.rel e he (.inl (hd _ (hv e he).1)) with r | r | ⟨_, r⟩
    · cases r
    · exact r
    · cases r), w.why⟩
end Go.Proofs.Yteikipiigbjgbaa
