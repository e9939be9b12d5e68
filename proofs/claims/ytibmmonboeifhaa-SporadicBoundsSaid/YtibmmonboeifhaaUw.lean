/- Plain: at most Budget runs in any Period ticks. -/
import Derived.Test.YtibmmonboeifhaaUo
namespace Go.Proofs.Ytibmmonboeifhaa
open Go.RowKit
set_option linter.unusedVariables false

/-- How many of these are at least a. -/
def cntG (a : Int) (ts : List Int) : Nat := (ts.filter fun t => decide (a ≤ t)).length
/-- What comes back at th or later. -/
def dueG (th : Int) : List (Int × Int) → Int
  | [] => 0
  | x :: r => (if th ≤ x.1 then x.2 else 0) + dueG th r
theorem dueG_app (th : Int) : ∀ (l m : List (Int × Int)), dueG th (l ++ m) = dueG th l + dueG th m
  | [], m => by rw [List.nil_append, dueG]; omega
  | x :: r, m => by rw [List.cons_append, dueG, dueG, dueG_app th r m]; omega
theorem dueG_le {th : Int} : ∀ {l : List (Int × Int)}, (∀ x ∈ l, 0 ≤ x.2) → 0 ≤ dueG th l ∧ dueG th l ≤ sumL l
  | [], _ => by rw [dueG, sumL_nil]; omega
  | x :: r, h => by
    have h0 := h x (by simp)
    have ih := dueG_le (th := th) (l := r) fun y hy => h y (by simp [hy])
    rw [dueG, sumL_cons]
    split <;> omega
theorem dueG_take {th u : Int} (h : u < th) : ∀ (l : List (Int × Int)) (b : Int), dueG th (takeL u b l).2 = dueG th l
  | [], b => rfl
  | x :: r, b => by
    rw [takeL]; split
    · rename_i hx
      rw [dueG_take h r, dueG, if_neg (by omega)]; omega
    · rfl
/-- What was run comes back, and not too early. -/
def BI (s : AQ) (ts : List Int) : Prop := (∀ t ∈ ts, t ≤ s.ran) ∧ ∀ a, s.told ≤ a + s.per → (cntG a ts : Int) ≤ dueG (a + 1 + s.per) s.l + s.chk
theorem cntG_zero {a m : Int} {ts : List Int} (h : ∀ t ∈ ts, t ≤ m) (hm : m < a) : cntG a ts = 0 := by
  rw [cntG, List.filter_eq_nil_iff.2 fun t ht => by have := h t ht; simp; omega]; rfl
theorem cntG_snoc (a t : Int) (ts : List Int) : cntG a (ts ++ [t]) ≤ cntG a ts + 1 := by
  rw [cntG, List.filter_append, List.length_append]
  have : (List.filter (fun t => decide (a ≤ t)) [t]).length ≤ 1 := List.length_filter_le _ _
  rw [cntG]; omega
theorem endA_due {T : Int} {s : AQ} (h : AI T s) {th : Int} : dueG th s.l + (if th ≤ s.ran + 1 + s.per then s.chk else 0) ≤ dueG th (endA s).l := by
  have hc := h.chk0
  by_cases hl : s.l.length < s.cap
  · have e : (endA s).l = s.l ++ [(s.ran + 1 + s.per, s.chk)] := by rw [endA, if_pos hl]
    rw [e, dueG_app, dueG, dueG]
    show _ ≤ dueG th s.l + ((if th ≤ s.ran + 1 + s.per then s.chk else 0) + 0)
    omega
  · have e : (endA s).l = s.l.dropLast ++ [(if (s.l.getLastD (0, 0)).1 < s.ran + 1 + s.per then s.ran + 1 + s.per else (s.l.getLastD (0, 0)).1, (s.l.getLastD (0, 0)).2 + s.chk)] := by rw [endA, if_neg hl]
    have hne : s.l ≠ [] := fun e => hl (by rw [e]; exact h.cap0)
    have hs := split_last hne
    have hm : s.l.getLastD (0, 0) ∈ s.l := by rw [hs]; simp
    have h0 := h.amt _ hm
    have e2 := congrArg (dueG th) hs
    rw [dueG_app, dueG, dueG] at e2
    rw [e, dueG_app, dueG, dueG, e2]
    generalize s.l.getLastD (0, 0) = z at h0 ⊢
    obtain ⟨z1, z2⟩ := z
    generalize dueG th s.l.dropLast = D
    simp only at h0 ⊢
    by_cases c1 : th ≤ s.ran + 1 + s.per
    · rw [if_pos c1]
      by_cases c2 : z1 < s.ran + 1 + s.per
      · rw [if_pos c2, if_pos c1]; split <;> omega
      · rw [if_neg c2, if_pos (by omega)]; omega
    · rw [if_neg c1]
      by_cases c2 : z1 < s.ran + 1 + s.per
      · rw [if_pos c2, if_neg c1, if_neg (by omega)]; omega
      · rw [if_neg c2]; split <;> omega
theorem BI.tell {T : Int} {s : AQ} {now : Int} {ts : List Int} (h : BI s ts) (hg : GI T s now) : BI (tellA now s) ts := by
  have hp := hg.per
  refine ⟨by rw [tellA_ran]; exact h.1, fun a ha => ?_⟩
  rw [tellA_per] at ha ⊢
  have ha' : now ≤ a + s.per := ha
  have h1 := h.2 a (Int.le_trans hg.told ha')
  rw [tellA_chk]
  by_cases hn : 0 < s.chk ∧ s.ran + 1 < now
  · rw [if_pos hn, tellA_yes hn]
    show _ ≤ dueG (a + 1 + s.per) (takeL now _ (endA (takeA (s.ran + 1) s)).l).2 + 0
    rw [dueG_take (by omega)]
    have he := endA_due (hg.ai.take (s.ran + 1)) (th := a + 1 + s.per)
    have e1 : dueG (a + 1 + s.per) (takeA (s.ran + 1) s).l = dueG (a + 1 + s.per) s.l := dueG_take (by omega) _ _
    rw [e1] at he
    have he' : dueG (a + 1 + s.per) s.l + (if a + 1 + s.per ≤ s.ran + 1 + s.per then s.chk else 0) ≤ dueG (a + 1 + s.per) (endA (takeA (s.ran + 1) s)).l := he
    by_cases hr : a ≤ s.ran
    · rw [if_pos (by omega)] at he'; omega
    · rw [cntG_zero h.1 (by omega)]
      have := (dueG_le (th := a + 1 + s.per) (hg.ai.take (s.ran + 1)).ended.amt).1
      show ((0 : Nat) : Int) ≤ _
      omega
  · rw [if_neg hn, tellA_no hn]
    show _ ≤ dueG (a + 1 + s.per) (takeL now s.bud s.l).2 + s.chk
    rw [dueG_take (by omega)]; exact h1
theorem BI.small {T : Int} {s : AQ} {ts : List Int} (h : BI s ts) (ha : AI T s) {a : Int} (h1 : s.told ≤ a + s.per) : (cntG a ts : Int) ≤ T - s.bud := by
  have := h.2 a h1
  have := (dueG_le (th := a + 1 + s.per) ha.amt).2
  have := ha.sum
  omega
theorem BI.run {T : Int} {s : AQ} {now : Int} {ts : List Int} (h : BI s ts) (hg : GI T s now) (h1 : now ≤ 1099511627776) (hb : (tellA now s).bud ≠ 0) : BI (runS now s) (ts ++ [now]) ∧ ∀ a, now ≤ a + s.per → (cntG a (ts ++ [now]) : Int) ≤ T := by
  have ht := h.tell hg
  have hgt := hg.tell
  have hn := hg.n0
  have hp := hg.per
  have hai := hgt.ai.ran now hn h1 hb
  have hper : (ranA now (tellA now s)).per = s.per := tellA_per now s
  have hr : BI (ranA now (tellA now s)) (ts ++ [now]) := by
    refine ⟨fun t htm => ?_, fun a ha => ?_⟩
    · show t ≤ now
      rcases List.mem_append.1 htm with h2 | h2
      · have := h.1 t h2; have := hg.ran; omega
      · rw [List.mem_singleton.1 h2]; exact Int.le_refl _
    · have h2 := ht.2 a ha
      have h3 := cntG_snoc a now ts
      show (cntG a (ts ++ [now]) : Int) ≤ dueG (a + 1 + (tellA now s).per) (tellA now s).l + ((tellA now s).chk + 1)
      omega
  have hs : ∀ a, now ≤ a + s.per → (cntG a (ts ++ [now]) : Int) ≤ T := fun a ha => by
    have := hr.small hai (a := a) (by rw [hper]; exact ha)
    have := hai.bud0
    omega
  refine ⟨?_, hs⟩
  rw [(hg.runT h1 hb).2]
  split
  · refine ⟨by rw [endA_ran]; exact hr.1, fun a ha => ?_⟩
    rw [endA_told, endA_per] at ha
    rw [endA_per, endA_chk]
    have h2 := hr.2 a ha
    have he := endA_due hai (th := a + 1 + (ranA now (tellA now s)).per)
    by_cases hra : a ≤ now
    · rw [if_pos (by show a + 1 + _ ≤ now + 1 + _; omega)] at he; omega
    · rw [cntG_zero hr.1 (by show now < a; omega)]
      have := (dueG_le (th := a + 1 + (ranA now (tellA now s)).per) hai.ended.amt).1
      show ((0 : Nat) : Int) ≤ _
      omega
  · exact hr

/-- No more than T of these lie in any per ticks. -/
def FewI (T per : Int) (ts : List Int) : Prop := ∀ (i k : Nat) (x y : Int), ts[i]? = some x → ts[k]? = some y → i ≤ k → y < x + per → (k : Int) - i + 1 ≤ T
theorem cnt_from {ts : List Int} (hs : ts.Pairwise (· < ·)) {i : Nat} {x : Int} (hx : ts[i]? = some x) : cntG x ts = ts.length - i := by
  have hlt : i < ts.length := (List.getElem?_eq_some_iff.1 hx).1
  have e : ts = ts.take i ++ ts.drop i := (List.take_append_drop i ts).symm
  have hd : ts.drop i = x :: ts.drop (i + 1) := by
    rw [List.drop_eq_getElem_cons hlt]
    congr 1
    rw [List.getElem?_eq_getElem hlt] at hx; injection hx
  have hp := hs
  rw [e, List.pairwise_append] at hp
  obtain ⟨p1, p2, p3⟩ := hp
  rw [hd] at p2 p3
  have f1 : (ts.take i).filter (fun t => decide (x ≤ t)) = [] := List.filter_eq_nil_iff.2 fun t ht => by have := p3 t ht x (by simp); simp; omega
  have f2 : (ts.drop i).filter (fun t => decide (x ≤ t)) = ts.drop i := by
    refine List.filter_eq_self.2 fun t ht => ?_
    rw [hd] at ht
    rcases List.mem_cons.1 ht with h | h
    · rw [h]; simp
    · have := (List.pairwise_cons.1 p2).1 t h; simp; omega
  rw [cntG]
  conv => lhs; rw [e]
  rw [List.filter_append, f1, f2, List.nil_append, List.length_drop]
theorem FewI.snoc {T per now : Int} {ts : List Int} (h : FewI T per ts) (hs : (ts ++ [now]).Pairwise (· < ·)) (hc : ∀ a, now ≤ a + per → (cntG a (ts ++ [now]) : Int) ≤ T) : FewI T per (ts ++ [now]) := by
  intro i k x y hx hy hik hlt
  by_cases hk : k < ts.length
  · rw [List.getElem?_append_left hk] at hy
    rw [List.getElem?_append_left (by omega)] at hx
    exact h i k x y hx hy hik hlt
  · have hkl : k < (ts ++ [now]).length := (List.getElem?_eq_some_iff.1 hy).1
    rw [List.length_append, List.length_cons, List.length_nil] at hkl
    have hke : k = ts.length := by omega
    have hyn : y = now := by rw [hke, List.getElem?_append_right (Nat.le_refl _)] at hy; simp at hy; exact hy.symm
    have h1 := hc x (by omega)
    rw [cnt_from hs hx, List.length_append, List.length_cons, List.length_nil] at h1
    omega
theorem few_len {T per : Int} {ts : List Int} (h : FewI T per ts) {i k : Nat} {x : Int} (hx : ts[i]? = some x) (hT : 0 ≤ T) (hik : i ≤ k) (hk : ∀ j y, i ≤ j → j < k → ts[j]? = some y → y < x + per) (hkl : k ≤ ts.length) : (k : Int) - i ≤ T := by
  by_cases e : k = i
  · omega
  · obtain ⟨y, hy⟩ : ∃ y, ts[k - 1]? = some y := ⟨_, List.getElem?_eq_getElem (by omega)⟩
    have := h i (k - 1) x y hx hy (by omega) (hk (k - 1) y (by omega) (by omega) hy)
    omega
end Go.Proofs.Ytibmmonboeifhaa
