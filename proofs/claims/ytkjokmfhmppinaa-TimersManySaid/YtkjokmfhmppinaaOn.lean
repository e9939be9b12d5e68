/- Timers: a row of numbers that is sorted by a function value; the insertion sort. -/
import Derived.Test.YtkjokmfhmppinaaOm
namespace Go.Proofs.Ytkjokmfhmppinaa
open Go.RowKit Go.Maps
set_option linter.unusedVariables false

/-- Block g holds these n numbers, and room for more. -/
def IR (W : World) (g n cap : Nat) (A : Nat → Int) : Prop := ∃ cur : Array Value, W.heap[g]? = some (.cells cur 3 (0, 0)) ∧ cur.size = cap ∧ n ≤ cap ∧ ∀ i, i < n → cur[i]? = some (.int .i64 (A i))
theorem IR.lt {W : World} {g n cap : Nat} {A : Nat → Int} (h : IR W g n cap A) : g < W.heap.size := by obtain ⟨c, h1, _⟩ := h; exact (Array.getElem?_eq_some_iff.1 h1).1
theorem IR.cell {W : World} {g n cap : Nat} {A : Nat → Int} (h : IR W g n cap A) {i : Nat} (hi : i < n) : W.cell? ⟨g, i, none⟩ = some (.int .i64 (A i)) := by
  obtain ⟨c, h1, _, _, h4⟩ := h
  rw [cell_of_row W g i c 3 (0, 0) h1, h4 i hi]
theorem IR.frozen {W : World} {g n cap : Nat} {A : Nat → Int} (h : IR W g n cap A) (i : Nat) : W.frozen? ⟨g, i, none⟩ = false := by
  obtain ⟨c, h1, _⟩ := h
  exact frozen_of_row _ _ i _ _ h1
theorem IR.fr {W W' : World} {g n cap : Nat} {A : Nat → Int} {S : Nat → Prop} (h : IR W g n cap A) (hf : Fr S W W') (hS : ¬ S g) : IR W' g n cap A := by
  have hl := h.lt
  obtain ⟨c, h1, h2⟩ := h
  exact ⟨c, (hf.block g hl hS).trans h1, h2⟩
theorem IR.set {W : World} {g n cap : Nat} {A A' : Nat → Int} (h : IR W g n cap A) {i : Nat} (hi : i < n) (v : Int) (hA : ∀ k, k < n → A' k = if k = i then v else A k) : IR (W.setCell ⟨g, i, none⟩ (.int .i64 v)) g n cap A' := by
  obtain ⟨c, h1, h2, h3, h4⟩ := h
  refine ⟨c.setIfInBounds i (.int .i64 v), heap_setCell_same W _ _ _ _ _ h1, by simp [h2], h3, fun k hk => ?_⟩
  rw [Array.getElem?_setIfInBounds, hA k hk]
  by_cases e : i = k
  · subst e; simp; omega
  · rw [if_neg e, if_neg (Ne.symm e)]; exact h4 k hk
/-- The same numbers, each once, in another order. -/
structure Sm (n : Nat) (A A0 : Nat → Int) : Prop where
  to : ∀ i, i < n → ∃ j, j < n ∧ A i = A0 j
  fro : ∀ j, j < n → ∃ i, i < n ∧ A i = A0 j
  inj : ∀ i j, i < n → j < n → A i = A j → i = j
def sw (A : Nat → Int) (i j : Nat) : Nat → Int := fun k => if k = i then A j else if k = j then A i else A k
theorem sw_idx {n i j k : Nat} (A : Nat → Int) (hi : i < n) (hj : j < n) (hk : k < n) : ∃ k', k' < n ∧ sw A i j k = A k' ∧ (k' = if k = i then j else if k = j then i else k) := by
  unfold sw
  by_cases h1 : k = i
  · exact ⟨j, hj, by rw [if_pos h1], by rw [if_pos h1]⟩
  · by_cases h2 : k = j
    · exact ⟨i, hi, by rw [if_neg h1, if_pos h2], by rw [if_neg h1, if_pos h2]⟩
    · exact ⟨k, hk, by rw [if_neg h1, if_neg h2], by rw [if_neg h1, if_neg h2]⟩
theorem Sm.sw {n : Nat} {A A0 : Nat → Int} (h : Sm n A A0) {i j : Nat} (hi : i < n) (hj : j < n) : Sm n (sw A i j) A0 := by
  refine ⟨fun k hk => ?_, fun k hk => ?_, fun k m hk hm e => ?_⟩
  · obtain ⟨k', h1, h2, _⟩ := sw_idx A hi hj hk
    rw [h2]; exact h.to k' h1
  · obtain ⟨k', h1, h2⟩ := h.fro k hk
    refine ⟨if k' = i then j else if k' = j then i else k', ?_, ?_⟩
    · split
      · exact hj
      · split
        · exact hi
        · exact h1
    · rw [← h2]
      unfold Go.Proofs.Ytkjokmfhmppinaa.sw
      by_cases e1 : k' = i
      · subst e1; by_cases e3 : j = k' <;> simp [e3]
      · by_cases e2 : k' = j
        · subst e2; simp [e1]
        · simp [e1, e2]
  · obtain ⟨k', h1, h2, h3⟩ := sw_idx A hi hj hk
    obtain ⟨m', g1, g2, g3⟩ := sw_idx A hi hj hm
    rw [h2, g2] at e
    have := h.inj k' m' h1 g1 e
    rw [h3, g3] at this
    revert this
    (repeat' split) <;> intro this <;> omega
theorem Sm.refl {n : Nat} {A : Nat → Int} (h : ∀ i j, i < n → j < n → A i = A j → i = j) : Sm n A A := ⟨fun i hi => ⟨i, hi, rfl⟩, fun i hi => ⟨i, hi, rfl⟩, h⟩
/-- An order by a comparison. -/
structure Ord3 (cf : Int → Int → Int) : Prop where
  asym : ∀ x y, cf x y < 0 → ¬ cf y x < 0
  trans : ∀ x y z, ¬ cf y x < 0 → ¬ cf z y < 0 → ¬ cf z x < 0
/-- The numbers from lo on, before hi, are in order. -/
def Up (cf : Int → Int → Int) (A : Nat → Int) (lo hi : Nat) : Prop := ∀ p q, lo ≤ p → p < q → q < hi → ¬ cf (A q) (A p) < 0
/-- .. but for the one at j. -/
def Up1 (cf : Int → Int → Int) (A : Nat → Int) (lo hi j : Nat) : Prop := ∀ p q, lo ≤ p → p < q → q < hi → q ≠ j → ¬ cf (A q) (A p) < 0
theorem Up.one {cf : Int → Int → Int} {A : Nat → Int} {lo i : Nat} (h : Up cf A lo i) : Up1 cf A lo (i + 1) i := fun p q h1 h2 h3 h4 => h p q h1 h2 (by omega)
theorem Up1.step {cf : Int → Int → Int} {A : Nat → Int} {lo hi k : Nat} (O : Ord3 cf) (h : Up1 cf A lo hi (k + 1)) (hk : lo ≤ k) (hh : k + 1 < hi) (hl : cf (A (k + 1)) (A k) < 0) : Up1 cf (sw A (k + 1) k) lo hi k := by
  intro p q h1 h2 h3 h4
  unfold sw
  by_cases q1 : q = k + 1
  · subst q1
    rw [if_pos rfl]
    by_cases p1 : p = k
    · subst p1
      rw [if_neg (by omega), if_pos rfl]; exact O.asym _ _ hl
    · rw [if_neg (by omega), if_neg p1]
      exact h p k h1 (by omega) (by omega) (by omega)
  · rw [if_neg q1, if_neg h4]
    by_cases p1 : p = k + 1
    · subst p1
      rw [if_pos rfl]
      exact h k q (by omega) (by omega) h3 q1
    · rw [if_neg p1]
      by_cases p2 : p = k
      · subst p2
        rw [if_pos rfl]
        exact h (p + 1) q (by omega) (by omega) h3 q1
      · rw [if_neg p2]
        exact h p q h1 h2 h3 q1
theorem Up1.stop {cf : Int → Int → Int} {A : Nat → Int} {lo hi k : Nat} (O : Ord3 cf) (h : Up1 cf A lo hi (k + 1)) (hh : k + 1 < hi) (hl : ¬ cf (A (k + 1)) (A k) < 0) : Up cf A lo hi := by
  intro p q h1 h2 h3
  by_cases q1 : q = k + 1
  · subst q1
    by_cases p1 : p = k
    · subst p1; exact hl
    · exact O.trans _ _ _ (h p k h1 (by omega) (by omega) (by omega)) hl
  · exact h p q h1 h2 h3 q1
theorem Up1.low {cf : Int → Int → Int} {A : Nat → Int} {lo hi : Nat} (h : Up1 cf A lo hi lo) : Up cf A lo hi := fun p q h1 h2 h3 => h p q h1 h2 h3 (by omega)
/-- The comparison by the function value, while block g alone turns. -/
def CmpAt (W : World) (B g : Nat) (P : Int → Prop) (cf : Int → Int → Int) : Prop := ∀ w, Fr (fun k => k = g) W w → ∀ x y, P x → P y → Calls Try.prog 60 #[.pointer (some ⟨B, 0, none⟩), .int .i64 x, .int .i64 y] w fun e w' => e = .returned (.int .i64 (cf x y)) ∧ Fr No w w'
def dueF (B : Nat) : Value := .func (.func 60) #[.pointer (some ⟨B, 0, none⟩)] #[]
/-- What a sort keeps. -/
def SI (W : World) (g n cap : Nat) (A0 : Nat → Int) (w : World) (A : Nat → Int) : Prop := IR w g n cap A ∧ Sm n A A0 ∧ Fr (fun k => k = g) W w
theorem SI.swap {W w : World} {g n cap : Nat} {A0 A : Nat → Int} (h : SI W g n cap A0 w A) {i j : Nat} (hi : i < n) (hj : j < n) : SI W g n cap A0 ((w.setCell ⟨g, i, none⟩ (.int .i64 (A j))).setCell ⟨g, j, none⟩ (.int .i64 (A i))) (sw A i j) := by
  refine ⟨?_, h.2.1.sw hi hj, ((h.2.2).trans (Fr.set (S := fun k => k = g) _ _ _ _ rfl)).trans (Fr.set (S := fun k => k = g) _ _ _ _ rfl)⟩
  have h1 : IR (w.setCell ⟨g, i, none⟩ (.int .i64 (A j))) g n cap (fun k => if k = i then A j else A k) := h.1.set hi _ fun k hk => rfl
  refine h1.set hj _ fun k hk => ?_
  unfold sw
  by_cases e : k = i
  · subst e; by_cases e2 : k = j <;> simp [e2]
  · simp [e]
theorem SI.no {W w w' : World} {g n cap : Nat} {A0 A : Nat → Int} (h : SI W g n cap A0 w A) (f : Fr No w w') : SI W g n cap A0 w' A := ⟨h.1.fr f id, h.2.1, h.2.2.trans f.any⟩
end Go.Proofs.Ytkjokmfhmppinaa
