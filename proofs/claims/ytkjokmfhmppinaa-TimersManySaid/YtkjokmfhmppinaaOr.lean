/- Timers: armed, the numbers that it collects and sorts. -/
import Derived.Test.YtkjokmfhmppinaaOq
import Derived.Maps.AppendAt
import Derived.Great.BuildSlice
import Derived.Laws.AppendOwn
namespace Go.Proofs.Ytkjokmfhmppinaa
open Go.RowKit Go.Maps Go.Shelf
set_option linter.unusedVariables false

theorem info_int : (Try.prog.info? 3).map (fun i => (i.zero, i.size, i.bytes)) = some (some (.int .i64 0), 1, 8) := by kernel_rfl
def ie (x : Int) : Value := .int .i64 x
/-- The numbers that armed has collected, of the entries that are no longer to come. -/
structure Col (l : TS) (left : Lit → Bool) (xs : List Int) (cnt : Nat) : Prop where
  nd : xs.Nodup
  mem : ∀ x, x ∈ xs ↔ ∃ t, get l x = some t ∧ t.f ≠ 0 ∧ left (kl x) = false
  len : xs.length + cnt ≤ l.length
theorem Col.start (l : TS) : Col l (Maps.has (Dof l)) [] l.length := ⟨List.nodup_nil, fun x => ⟨fun h => (nomatch h), fun ⟨t, h1, h2, h3⟩ => (by rw [dhas, h1] at h3; cases h3)⟩, by simp⟩
theorem left_iff {left : Lit → Bool} {x y : Int} : (left (kl y) && !(kl y).sameKey (kl x)) = false ↔ left (kl y) = false ∨ y = x := by
  rw [same_kl]
  by_cases h : y = x
  · simp [h]
  · rw [beq_eq_false_iff_ne.2 h]; simp [h]
theorem Col.skip {l : TS} {left : Lit → Bool} {xs : List Int} {cnt cnt1 : Nat} {x : Int} {t : Tm} (h : Col l left xs cnt) (hg : get l x = some t) (hf : t.f = 0) (hc : cnt1 < cnt) : Col l (fun z => left z && !z.sameKey (kl x)) xs cnt1 := by
  refine ⟨h.nd, fun y => ?_, by have := h.len; omega⟩
  rw [h.mem y]
  constructor
  · rintro ⟨u, h1, h2, h3⟩
    exact ⟨u, h1, h2, left_iff.2 (.inl h3)⟩
  · rintro ⟨u, h1, h2, h3⟩
    rcases left_iff.1 h3 with h3 | rfl
    · exact ⟨u, h1, h2, h3⟩
    · rw [hg] at h1; cases h1; exact absurd hf h2
theorem Col.add {l : TS} {left : Lit → Bool} {xs : List Int} {cnt cnt1 : Nat} {x : Int} {t : Tm} (h : Col l left xs cnt) (hg : get l x = some t) (hf : t.f ≠ 0) (hl : left (kl x) = true) (hc : cnt1 < cnt) : Col l (fun z => left z && !z.sameKey (kl x)) (xs ++ [x]) cnt1 := by
  have hx : x ∉ xs := fun hm => by obtain ⟨u, _, _, h3⟩ := (h.mem x).1 hm; rw [hl] at h3; cases h3
  refine ⟨?_, fun y => ?_, by have := h.len; simp; omega⟩
  · rw [List.nodup_append]
    refine ⟨h.nd, by simp, ?_⟩
    intro a ha b hb e
    simp at hb
    subst hb e
    exact hx ha
  · rw [List.mem_append, List.mem_singleton, h.mem y]
    constructor
    · rintro (⟨u, h1, h2, h3⟩ | rfl)
      · exact ⟨u, h1, h2, left_iff.2 (.inl h3)⟩
      · exact ⟨t, hg, hf, left_iff.2 (.inr rfl)⟩
    · rintro ⟨u, h1, h2, h3⟩
      rcases left_iff.1 h3 with h3 | rfl
      · exact .inl ⟨u, h1, h2, h3⟩
      · exact .inr rfl
theorem Col.fin {l : TS} {left : Lit → Bool} {xs : List Int} {cnt : Nat} (h : Col l left xs cnt) (hl : ∀ k, left k = false) : ∀ x, x ∈ xs ↔ ∃ t, get l x = some t ∧ t.f ≠ 0 := fun x => by
  rw [h.mem x]
  exact ⟨fun ⟨t, h1, h2, _⟩ => ⟨t, h1, h2⟩, fun ⟨t, h1, h2⟩ => ⟨t, h1, h2, hl _⟩⟩
/-- What a round of an iterator's caller keeps: the rows of numbers. -/
def KpI (A B : World) : Prop := A.heap.size ≤ B.heap.size ∧ ∀ (k : Nat) (cs : Array Value) (fr : Nat × Nat), A.heap[k]? = some (Obj.cells cs 3 fr) → B.heap[k]? = some (Obj.cells cs 3 fr)
theorem KpI.refl (A : World) : KpI A A := ⟨Nat.le_refl _, fun _ _ _ h => h⟩
theorem KpI.trans {A B C : World} (h : KpI A B) (k : KpI B C) : KpI A C := ⟨Nat.le_trans h.1 k.1, fun i cs fr e => k.2 i cs fr (h.2 i cs fr e)⟩
theorem KpI.fr {S : Nat → Prop} {A B : World} (h : Fr S A B) (hS : ∀ (k : Nat) (cs : Array Value) (fr : Nat × Nat), A.heap[k]? = some (Obj.cells cs 3 fr) → ¬ S k) : KpI A B :=
  ⟨h.size, fun k cs fr e => (h.block k (Array.getElem?_eq_some_iff.1 e).1 (hS k cs fr e)).trans e⟩
theorem KpI.no {A B : World} (h : Fr No A B) : KpI A B := KpI.fr h fun _ _ _ _ => id
theorem IR.kp {W W' : World} {g n cap : Nat} {A : Nat → Int} (h : IR W g n cap A) (k : KpI W W') : IR W' g n cap A := by
  obtain ⟨c, h1, h2⟩ := h
  exact ⟨c, k.2 g c (0, 0) h1, h2⟩
/-- A sort of n numbers by compareDue. -/
def SortOK (n : Nat) : Prop := ∀ (W : World) (B g cap : Nat) (A0 : Nat → Int) (P : Int → Prop) (cf : Int → Int → Int), Ord3 cf → CmpAt W B g P cf → (∀ i, i < n → P (A0 i)) → IR W g n cap A0 → (∀ i j, i < n → j < n → A0 i = A0 j → i = j) →
  Calls Try.prog 59 #[.slice (some ⟨g, 0, none⟩) n cap, dueF B] W fun e w' => e = .returned (.tuple #[]) ∧ ∃ A, SI W g n cap A0 w' A ∧ Up cf A 0 n
theorem sortOK_small {n : Nat} (h : n ≤ 12) : SortOK n := fun W B g cap A0 P cf O hc hP hI hA => sortfunc_small O hc hP hI hA h
theorem cdue_ord (l : TS) : Ord3 (cdue l) := by
  have key : ∀ x y, cdue l x y < 0 ↔ (((get l x).getD tz).f < ((get l y).getD tz).f ∨ ((get l x).getD tz).f = ((get l y).getD tz).f ∧ x < y) := fun x y => by
    unfold cdue c3
    generalize ((get l x).getD tz).f = a
    generalize ((get l y).getD tz).f = b
    by_cases h1 : a < b
    · simp [h1]
    · by_cases h2 : b < a
      · simp [h1, h2]; omega
      · have : a = b := by omega
        subst this
        by_cases h3 : x < y
        · simp [h3]
        · by_cases h4 : y < x <;> simp [h3, h4]
  constructor
  · intro x y h; rw [key] at h ⊢; omega
  · intro x y z h1 h2; rw [key] at h1 h2 ⊢; omega
theorem cdue_lt {l : TS} {x y : Int} {t u : Tm} (hx : get l x = some t) (hy : get l y = some u) : ¬ cdue l y x < 0 ↔ (t.f < u.f ∨ t.f = u.f ∧ x ≤ y) := by
  unfold cdue c3
  rw [hx, hy]
  simp only [Option.getD_some]
  by_cases h1 : u.f < t.f
  · simp [h1]; omega
  · by_cases h2 : t.f < u.f
    · simp [h1, h2]
    · have : t.f = u.f := by omega
      simp [this]
      by_cases h3 : y < x
      · simp [h3]
      · by_cases h4 : x < y <;> simp [h3, h4] <;> omega
end Go.Proofs.Ytkjokmfhmppinaa
