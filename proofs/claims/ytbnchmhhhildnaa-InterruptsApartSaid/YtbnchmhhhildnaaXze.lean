/- Interrupts: masks of a line's own count; InterruptsNested's walk. -/
import Derived.Test.YtbnchmhhhildnaaXzd
namespace Go.Proofs.Ytbnchmhhhildnaa
open Go.RowKit Go.Maps
set_option linter.unusedVariables false

theorem upd_upd {α : Type} (f : α → Int) (k : α) (a b : Int) : (fun x => upd (fun z => upd f k a z) k b x) = fun x => upd f k b x := by
  funext x
  by_cases e : x = k
  · subst e; rw [upd_same, upd_same]
  · rw [upd_other e, upd_other e, upd_other e]
theorem setCn_setCn (s : IS) (k : Int × Int) (a b : Int) : setCn (setCn s k a) k b = setCn s k b := by
  unfold setCn
  simp only [upd_upd]
theorem setCn_self (s : IS) (k : Int × Int) : setCn s k (s.cn k) = s := by
  unfold setCn
  have : (fun x => upd s.cn k (s.cn k) x) = s.cn := upd_id rfl
  rw [this]
/-- j masks more of a line's own count. -/
noncomputable def mS (s : IS) (n : Nat) (j : Int) : IS := setCn s ((n : Int), -1) (s.cn ((n : Int), -1) + j)
theorem mS_cn (s : IS) (n : Nat) (j : Int) : (mS s n j).cn ((n : Int), -1) = s.cn ((n : Int), -1) + j := upd_same _ _ _
theorem mS_zero (s : IS) (n : Nat) : mS s n 0 = s := by unfold mS; rw [Int.add_zero, setCn_self]
theorem slq_own {s : IS} (n : Int) {o : List Int} (v : Int) (ho : ∀ x ∈ o, x ≠ -1) : slq (setCn s (n, -1) v).cn n o = slq s.cn n o := by
  induction o with
  | nil => rfl
  | cons a r ih =>
    rw [slq, slq, ih (fun x hx => ho x (by simp [hx]))]
    have : (setCn s (n, -1) v).cn (n, a) = s.cn (n, a) := upd_other (fun e => ho a (by simp) (congrArg Prod.snd e))
    rw [this]
theorem IOk.onn {s : IS} (h : IOk s) {n : Nat} {l : IL} (hl : s.ls[n]? = some l) : ∀ x ∈ l.o, x ≠ -1 := fun x hx e => by
  obtain ⟨t, ht, _⟩ := (h.ord n l x hl).1 hx
  have := (h.key _ (get_mem ht)).1
  simp at this
  omega
theorem mS_sum {s : IS} (h : IOk s) {n : Nat} {l : IL} (hl : s.ls[n]? = some l) (j : Int) : sumI (mS s n j) n = sumI s n + j := by
  have e1 : ordL (mS s n j) n = l.o := ordL_nat (s := mS s n j) hl
  unfold sumI
  rw [e1, ordL_nat hl]
  unfold sumL
  rw [mS_cn]
  have : slq (mS s n j).cn n l.o = slq s.cn n l.o := slq_own n _ (h.onn hl)
  rw [this]; omega
theorem fdE_own {s : IS} {n : Nat} {l : IL} (hl : s.ls[n]? = some l) : fdE s n (-1) = 0 := by
  have := (List.getElem?_eq_some_iff.1 hl).1
  unfold fdE
  rw [if_pos (by omega), if_pos rfl]
theorem stM_own {s : IS} (h : IOk s) {n : Nat} {l : IL} (hl : s.ls[n]? = some l) {j : Int} (hj : s.cn ((n : Int), -1) + j < 1000) : stM (mS s n j) n (-1) = (mS s n (j + 1), sumI s n + j + 1, 0) := by
  unfold stM
  rw [if_pos (fdE_own (s := mS s n j) hl), mS_cn, if_neg (by omega)]
  have e : setCn (mS s n j) ((n : Int), -1) (s.cn ((n : Int), -1) + j + 1) = mS s n (j + 1) := by
    unfold mS
    rw [setCn_setCn]
    congr 1
    omega
  rw [e, mS_sum h hl]
  congr 2
  omega
theorem stU_own {s : IS} (h : IOk s) {n : Nat} {l : IL} (hl : s.ls[n]? = some l) {j : Int} (hj : 0 < s.cn ((n : Int), -1) + j) : stU (mS s n j) n (-1) = (mS s n (j - 1), sumI s n + j - 1, 0) := by
  unfold stU
  rw [if_pos (fdE_own (s := mS s n j) hl), mS_cn, if_neg (by omega)]
  have e : setCn (mS s n j) ((n : Int), -1) (s.cn ((n : Int), -1) + j - 1) = mS s n (j - 1) := by
    unfold mS
    rw [setCn_setCn]
    congr 1
    omega
  rw [e, mS_sum h hl]
  congr 2
  omega
theorem mS_ok {s : IS} (h : IOk s) {n : Nat} {l : IL} (hl : s.ls[n]? = some l) {j : Int} (h0 : 0 ≤ s.cn ((n : Int), -1) + j) (h1 : s.cn ((n : Int), -1) + j ≤ 1000) : IOk (mS s n j) := h.setCn (fdE_own hl) h0 h1
/-- A step adds at most one to a line's own count. -/
theorem dA_own {s : IS} (h : IOk s) (n : Int) : ∀ k, (dA s k).1.cn (n, -1) = s.cn (n, -1)
  | 0 => rfl
  | k + 1 => by
    rw [dA]
    split
    · rename_i l hl
      split
      · show (dQ (dA s k).1 k l.o).1 (n, -1) = _
        rw [dQ_cn _ _ _ _ (fun x hx e => (dA_ok h k).onn hl x hx (congrArg Prod.snd e).symm)]
        exact dA_own h n k
      · exact dA_own h n k
    · exact dA_own h n k
theorem stepI_own {s : IS} (h : IOk s) (o : OpR) (n : Int) : (stepI s o).cn (n, -1) ≤ s.cn (n, -1) + 1 := by
  have hc := h.c0 (n, -1)
  unfold stepI
  split
  · unfold stA
    split
    · show s.cn _ ≤ _; omega
    · split
      · split <;> (show s.cn _ ≤ _; omega)
      · show s.cn _ ≤ _; omega
  · split
    · cases hg : get s.att o.ix with
      | none => unfold stD; rw [hg]; show s.cn _ ≤ _; omega
      | some t =>
        obtain ⟨m, l, h1, h2, h3⟩ := line_of h hg
        rw [h3]
        show upd s.cn ((m : Int), o.ix) 0 (n, -1) ≤ _
        by_cases e : (n, (-1 : Int)) = ((m : Int), o.ix)
        · rw [e, upd_same]; rw [e] at hc; omega
        · rw [upd_other e]; omega
    · split
      · unfold stM
        split
        · split
          · show s.cn _ ≤ _; omega
          · show upd s.cn (o.ln, o.ix) _ (n, -1) ≤ _
            by_cases e : (n, (-1 : Int)) = (o.ln, o.ix)
            · rw [e, upd_same]; omega
            · rw [upd_other e]; omega
        · show s.cn _ ≤ _; omega
      · split
        · unfold stU
          split
          · split
            · show s.cn _ ≤ _; omega
            · show upd s.cn (o.ln, o.ix) _ (n, -1) ≤ _
              by_cases e : (n, (-1 : Int)) = (o.ln, o.ix)
              · rw [e, upd_same]; omega
              · rw [upd_other e]; omega
          · show s.cn _ ≤ _; omega
        · split
          · unfold stR
            split <;> (show s.cn _ ≤ _; omega)
          · split
            · unfold stV; rw [dA_own h]; omega
            · omega
theorem runS_own {s : IS} (h : IOk s) (n : Int) (P : List OpR) : (runS s P).cn (n, -1) ≤ s.cn (n, -1) + P.length := by
  induction P generalizing s with
  | nil => simp [runS]
  | cons o r ih =>
    have h1 := stepI_own h o n
    have h2 := ih (stepI_ok h o)
    show (runS (stepI s o) r).cn _ ≤ _
    rw [List.length_cons]
    push_cast
    omega
theorem stepI_len {s : IS} (h : IOk s) (o : OpR) : (stepI s o).ls.length = s.ls.length := by
  unfold stepI
  split
  · unfold stA
    split
    · rfl
    · split
      · split
        · show (List.set _ _ _).length = _; simp
        · rfl
      · rfl
  · split
    · cases hg : get s.att o.ix with
      | none => unfold stD; rw [hg]
      | some t =>
        obtain ⟨m, l, h1, h2, h3⟩ := line_of h hg
        rw [h3]
        show (List.set _ _ _).length = _; simp
    · split
      · unfold stM; split
        · split <;> rfl
        · rfl
      · split
        · unfold stU; split
          · split <;> rfl
          · rfl
        · split
          · unfold stR
            split
            · rfl
            · show (List.set _ _ _).length = _; simp
          · split
            · exact dA_len _
            · rfl
theorem runS_len {s : IS} (h : IOk s) (P : List OpR) : (runS s P).ls.length = s.ls.length := by
  induction P generalizing s with
  | nil => rfl
  | cons o r ih => exact (ih (stepI_ok h o)).trans (stepI_len h o)
theorem sumI_bd {s : IS} (h : IOk s) {n : Nat} {l : IL} (hl : s.ls[n]? = some l) : 0 ≤ sumI s n ∧ sumI s n ≤ 200000 := by
  have h1 := h.c0 ((n : Int), -1)
  have h2 := h.c1 ((n : Int), -1)
  have h3 := slq_le s.cn n h.c0 h.c1 l.o
  have h4 := h.olen hl
  unfold sumI sumL
  rw [ordL_nat hl]
  omega
end Go.Proofs.Ytbnchmhhhildnaa
