/- Interrupts, plain: what a Deliver makes of one line. -/
import Derived.Test.YtbnchmhhhildnaaXzg
namespace Go.Proofs.Ytbnchmhhhildnaa
open Go.RowKit Go.Maps
set_option linter.unusedVariables false

/-- Is the line delivered? -/
def hitL (s : IS) (n : Nat) : Bool := match s.ls[n]? with | some l => l.p && sumL s n l.o == 0 | none => false
theorem slq_congr {f g : Int × Int → Int} {n : Int} {o : List Int} (h : ∀ x, f (n, x) = g (n, x)) : slq f n o = slq g n o := by
  induction o with
  | nil => rfl
  | cons a r ih => rw [slq, slq, ih, h a]
theorem dQ_other (s : IS) (n m : Int) (o : List Int) (x : Int) (h : m ≠ n) : (dQ s n o).1 (m, x) = s.cn (m, x) := dQ_cn _ _ _ _ (fun z _ e => h (congrArg Prod.fst e))
/-- Lines behind k are as they were. -/
theorem dA_behind {s : IS} : ∀ (k n : Nat), k ≤ n → (dA s k).1.ls[n]? = s.ls[n]? ∧ ∀ x, (dA s k).1.cn ((n : Int), x) = s.cn ((n : Int), x)
  | 0, n, _ => ⟨rfl, fun _ => rfl⟩
  | k + 1, n, h => by
    obtain ⟨h1, h2⟩ := dA_behind (s := s) k n (by omega)
    rw [dA]
    split
    · rename_i l hl
      split
      · refine ⟨?_, fun x => ?_⟩
        · show (List.set _ _ _)[n]? = _
          rw [List.getElem?_set_ne (by omega)]; exact h1
        · show (dQ _ _ _).1 _ = _
          rw [dQ_other _ _ _ _ _ (by omega)]; exact h2 x
      · exact ⟨h1, h2⟩
    · exact ⟨h1, h2⟩
theorem dA_att {s : IS} : ∀ k, (dA s k).1.att = s.att
  | 0 => rfl
  | k + 1 => by
    have ih := dA_att (s := s) k
    rw [dA]
    split
    · split
      · exact ih
      · exact ih
    · exact ih
theorem hit_behind {s : IS} {k : Nat} {l : IL} (hl : s.ls[k]? = some l) : (l.p = true ∧ sumL (dA s k).1 k l.o = 0) ↔ hitL s k = true := by
  obtain ⟨_, h2⟩ := dA_behind (s := s) k k (Nat.le_refl _)
  have e : sumL (dA s k).1 k l.o = sumL s k l.o := by unfold sumL; rw [h2, slq_congr h2]
  unfold hitL
  rw [hl, e]
  simp
/-- A line n behind a Deliver of the lines before k. -/
theorem dA_line {s : IS} {n : Nat} {l : IL} (hl : s.ls[n]? = some l) : ∀ k, n < k → (dA s k).1.ls[n]? = some (if hitL s n = true then dlL l else l) ∧ (∀ x, (dA s k).1.cn ((n : Int), x) = if hitL s n = true then (dQ s n l.o).1 ((n : Int), x) else s.cn ((n : Int), x))
  | 0, h => by omega
  | k + 1, h => by
    by_cases hk : n = k
    · subst hk
      obtain ⟨h1, h2⟩ := dA_behind (s := s) n n (Nat.le_refl _)
      rw [hl] at h1
      rw [dA, h1]
      simp only []
      by_cases hh : hitL s n = true
      · rw [if_pos ((hit_behind hl).2 hh), if_pos hh]
        have hn := (List.getElem?_eq_some_iff.1 h1).1
        refine ⟨?_, fun x => ?_⟩
        · show (List.set _ _ _)[n]? = _
          rw [List.getElem?_set_self hn]
        · rw [if_pos hh]
          show (dQ (dA s n).1 n l.o).1 _ = _
          have key : ∀ (o : List Int) (q q' : (Int × Int → Int) × (Int → Int) × List Dv), (∀ x, q.1 ((n : Int), x) = q'.1 ((n : Int), x)) → ∀ x, (o.foldl (dOne (dA s n).1.att n) q).1 ((n : Int), x) = (o.foldl (dOne s.att n) q').1 ((n : Int), x) := fun o => by
            have hatt : (dA s n).1.att = s.att := dA_att n
            rw [hatt]
            induction o with
            | nil => intro q q' hq x; exact hq x
            | cons a r ih =>
              intro q q' hq x
              rw [List.foldl_cons, List.foldl_cons]
              refine ih _ _ (fun z => ?_) x
              show (if _ then q.1 else _) _ = (if _ then q'.1 else _) _
              split
              · exact hq z
              · show upd q.1 _ _ _ = upd q'.1 _ _ _
                by_cases e : ((n : Int), z) = ((n : Int), a)
                · rw [e, upd_same, upd_same, hq]
                · rw [upd_other e, upd_other e, hq]
          exact key l.o _ _ h2 x
      · rw [if_neg (fun h => hh ((hit_behind hl).1 h)), if_neg hh]
        refine ⟨h1, fun x => ?_⟩
        rw [if_neg hh]; exact h2 x
    · obtain ⟨h1, h2⟩ := dA_line hl k (by omega)
      rw [dA]
      split
      · rename_i m hm
        split
        · refine ⟨?_, fun x => ?_⟩
          · show (List.set _ _ _)[n]? = _
            rw [List.getElem?_set_ne (by omega)]; exact h1
          · show (dQ _ _ _).1 _ = _
            rw [dQ_other _ _ _ _ _ (by omega)]; exact h2 x
        · exact ⟨h1, h2⟩
      · exact ⟨h1, h2⟩
theorem dQ_ds (s : IS) (n : Int) (o : List Int) : (dQ s n o).2.2.map (fun d => (d.n, d.a)) = o.map (fun x => (n, x)) := by
  have key : ∀ (o : List Int) (q : (Int × Int → Int) × (Int → Int) × List Dv), (o.foldl (dOne s.att n) q).2.2.map (fun d => (d.n, d.a)) = q.2.2.map (fun d => (d.n, d.a)) ++ o.map (fun x => (n, x)) := fun o => by
    induction o with
    | nil => intro q; simp
    | cons a r ih =>
      intro q
      rw [List.foldl_cons, ih]
      simp [dOne]
  have := key o (s.cn, s.th, [])
  simpa [dQ] using this
/-- The numbers of a line's attachments among the deliveries. -/
def atts (n : Int) (l : List Dv) : List Int := (l.filter (fun d => d.n == n)).map (·.a)
theorem atts_app (n : Int) (l m : List Dv) : atts n (l ++ m) = atts n l ++ atts n m := by simp [atts]
theorem atts_dQ (s : IS) (n m : Int) (o : List Int) : atts n (dQ s m o).2.2 = if m = n then o else [] := by
  have h := dQ_ds s m o
  generalize (dQ s m o).2.2 = L at h
  have h2 : ∀ (L : List Dv) (o : List Int), L.map (fun d => (d.n, d.a)) = o.map (fun x => (m, x)) → atts n L = if m = n then o else [] := fun L => by
    induction L with
    | nil =>
      intro o ho
      cases o with
      | nil => simp [atts]
      | cons a r => simp at ho
    | cons d r ih =>
      intro o ho
      cases o with
      | nil => simp at ho
      | cons a r' =>
        simp at ho
        have h3 := ih r' ho.2
        unfold atts at h3 ⊢
        rw [List.filter_cons, ho.1.1]
        by_cases e : m = n
        · subst e
          rw [if_pos rfl] at h3
          simp [ho.1.2]
          exact h3
        · rw [if_neg e] at h3
          simp [e]
          simpa using h3
  exact h2 L o h
theorem dA_atts {s : IS} {n : Nat} {l : IL} (hl : s.ls[n]? = some l) : ∀ k, atts n (dA s k).2 = if n < k ∧ hitL s n = true then l.o else []
  | 0 => by rw [if_neg (by omega)]; rfl
  | k + 1 => by
    have ih := dA_atts hl k
    cases hm : (dA s k).1.ls[k]? with
    | none =>
      have : dA s (k + 1) = dA s k := by rw [dA, hm]
      rw [this, ih]
      by_cases e : n = k
      · subst e
        rw [(dA_behind n n (Nat.le_refl _)).1, hl] at hm; cases hm
      · congr 1
        simp
        intro _
        omega
    | some m =>
      have hk := (dA_behind (s := s) k k (Nat.le_refl _)).1
      rw [hm] at hk
      by_cases hh : hitL s k = true
      · have e := (hit_behind hk.symm).2 hh
        rw [dA_hit hm e.1 e.2]
        show atts n (_ ++ _) = _
        rw [atts_app, ih, atts_dQ]
        by_cases e : n = k
        · subst e
          rw [hl] at hk; cases hk
          rw [if_neg (by omega), if_pos rfl, if_pos ⟨by omega, hh⟩]; rfl
        · rw [if_neg (show ¬ ((k : Int) = (n : Int)) by omega), List.append_nil]
          congr 1
          simp
          intro _
          omega
      · have hms : m.p = false ∨ sumL (dA s k).1 k m.o ≠ 0 := by
          by_cases hp : m.p = true
          · exact .inr fun hz => hh ((hit_behind hk.symm).1 ⟨hp, hz⟩)
          · exact .inl (by simpa using hp)
        rw [dA_miss hm hms, ih]
        by_cases e : n = k
        · subst e
          rw [if_neg (by omega), if_neg (fun h => hh h.2)]
        · congr 1
          simp
          intro _
          omega
end Go.Proofs.Ytbnchmhhhildnaa
