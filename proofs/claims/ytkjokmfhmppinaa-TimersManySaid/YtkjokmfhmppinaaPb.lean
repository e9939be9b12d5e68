/- Timers: what is left behind Expire. -/
import Derived.Test.YtkjokmfhmppinaaPa
namespace Go.Proofs.Ytkjokmfhmppinaa
open Go.RowKit Go.Maps
set_option linter.unusedVariables false

theorem fireL_in (now : Int) {x : Int} {t : Tm} : ∀ (pre : List (Int × Tm)) (l : TS), SortedT l → pre.Pairwise (fun p q => p.1 ≠ q.1) → (x, t) ∈ pre → get (fireL now pre l) x = some (updT now t)
  | p :: r, l, h, hp, hm => by
    obtain ⟨h1, h2⟩ := List.pairwise_cons.1 hp
    show get (fireL now r (ins p.1 (updT now p.2) l)) x = _
    rcases List.mem_cons.1 hm with e | hm
    · subst e
      rw [fireL_not now r _ (sorted_ins h) (fun q hq e => h1 q hq e.symm), get_ins _ _ _ _ h, if_pos rfl]
    · exact fireL_in now r _ (sorted_ins h) h2 hm
theorem fa_keys {l : TS} {now : Int} {fs : List (Int × Tm)} (h : FA l now fs) : fs.Pairwise (fun p q => p.1 ≠ q.1) :=
  List.Pairwise.imp_of_mem (fun {p q} hp hq hr e => by
    have g1 := ((h.2 p.1 p.2).1 hp).1
    have g2 := ((h.2 q.1 q.2).1 hq).1
    rw [e, g2] at g1
    have e2 : q.2 = p.2 := by simpa using g1
    rw [e2] at hr
    omega) h.1
/-- Of each timer: what Expire made of it. -/
theorem fire_get {l : TS} {now : Int} {fs : List (Int × Tm)} (hs : SortedT l) (h : FA l now fs) {x : Int} {t : Tm} (hg : get l x = some t) : get (fireL now fs l) x = some (if t.f ≠ 0 ∧ t.f ≤ now then updT now t else t) := by
  by_cases hc : t.f ≠ 0 ∧ t.f ≤ now
  · rw [if_pos hc]
    exact fireL_in now fs l hs (fa_keys h) ((h.2 x t).2 ⟨hg, hc⟩)
  · rw [if_neg hc, fireL_not now fs l hs (fun p hp e => ?_), hg]
    have := (h.2 p.1 p.2).1 hp
    rw [e, hg] at this
    obtain ⟨e2, h3⟩ := this
    cases e2
    exact hc h3
theorem fire_none {l : TS} {now : Int} {fs : List (Int × Tm)} (hs : SortedT l) (h : FA l now fs) {x : Int} (hg : get l x = none) : get (fireL now fs l) x = none := by
  rw [fireL_not now fs l hs (fun p hp e => ?_), hg]
  have := ((h.2 p.1 p.2).1 hp).1
  rw [e, hg] at this; cases this
theorem fire_of {l : TS} {now : Int} {fs : List (Int × Tm)} (hs : SortedT l) (h : FA l now fs) {x : Int} {u : Tm} (hg : get (fireL now fs l) x = some u) : ∃ t, get l x = some t ∧ u = (if t.f ≠ 0 ∧ t.f ≤ now then updT now t else t) := by
  cases hx : get l x with
  | none => rw [fire_none hs h hx] at hg; cases hg
  | some t => rw [fire_get hs h hx] at hg; cases hg; exact ⟨t, rfl, rfl⟩
theorem fire_spi {l : TS} {now : Int} {fs : List (Int × Tm)} (hs : SortedT l) (hsp : SpI l) (hn : isT now = true) (h : FA l now fs) : SpI (fireL now fs l) := fun p hp => by
  have hg := get_of_mem (x := p.1) (t := p.2) (fireL_sorted now fs l hs) hp
  obtain ⟨t, ht, e⟩ := fire_of hs h hg
  obtain ⟨d1, d2, d3⟩ := hsp.dl ht
  obtain ⟨n1, n2⟩ := (isT_iff now).1 hn
  rw [e]
  split
  · rename_i hc
    have := nxt_ok d1.1 hc.2 n2 d2.1
    show (isT (nxt t.f t.i now) && isT t.i && isT t.t) = true
    rw [Bool.and_eq_true, Bool.and_eq_true, isT_iff, isT_iff, isT_iff]
    exact ⟨⟨⟨this.1, this.2.1⟩, d2⟩, d3⟩
  · exact hsp _ (get_mem ht)
theorem fire_late {l : TS} {now : Int} {fs : List (Int × Tm)} (hs : SortedT l) (hsp : SpI l) (hn : isT now = true) (h : FA l now fs) {x : Int} {u : Tm} (hg : get (fireL now fs l) x = some u) : u.f = 0 ∨ now < u.f := by
  obtain ⟨t, ht, rfl⟩ := fire_of hs h hg
  obtain ⟨d1, d2, d3⟩ := hsp.dl ht
  obtain ⟨n1, n2⟩ := (isT_iff now).1 hn
  split
  · rename_i hc
    exact (nxt_ok d1.1 hc.2 n2 d2.1).2.2
  · rename_i hc
    by_cases h0 : t.f = 0
    · exact .inl h0
    · exact .inr (by have : ¬ t.f ≤ now := fun e => hc ⟨h0, e⟩
                     omega)
theorem late_nx {l : TS} {now : Int} (hs : SortedT l) (hsp : SpI l) (h : ∀ x t, get l x = some t → t.f = 0 ∨ now < t.f) : nx l = none ∨ now < nxV l := by
  cases hx : nx l with
  | none => exact .inl rfl
  | some m =>
    obtain ⟨⟨p, hp, h1, h2⟩, _⟩ := nx_some hx
    have hg := get_of_mem (x := p.1) (t := p.2) hs hp
    obtain ⟨_, _, d3⟩ := hsp.dl hg
    refine .inr ?_
    rw [nxV, hx]
    show now < m
    have := h _ _ hg
    unfold dl at h2
    omega
/-- Expire at a time that is not refused. -/
theorem expire_left {W : World} {B b : Nat} {l : TS} {c : Int} (h : TQ W B b l c) (hsp : SpI l) (now : Int) (hn : isT now = true) (hc : c ≤ now) (hso : ∀ n, n ≤ l.length → SortOK n) : Calls Try.prog 23 #[.pointer (some ⟨B, 0, none⟩), .int .i64 now] W fun e w' =>
    ∃ a k cap l', e = .returned (.tuple #[.slice a k cap, .int .i64 0]) ∧ TQ w' B b l' now ∧ SpI l' ∧ (nx l' = none ∨ now < nxV l') ∧ (∀ x t, get l x = some t → ∃ t', get l' x = some t' ∧ (k = 0 ∨ t'.f = 0 ∨ now < t'.f)) ∧ Fr (fun k => k = B ∨ k = b) W w' := by
  by_cases hq : nx l = none ∨ now < nxV l
  · refine (expire_quiet h hsp now hn hc hq).mono fun e w' ⟨he, q, f⟩ => ⟨none, 0, 0, l, he, q, hsp, hq, fun x t hg => ⟨t, hg, .inl rfl⟩, f.mono fun k _ e => .inl e⟩
  · have hs : (nx l).isSome = true := by cases hx : nx l with
      | none => exact (hq (.inl hx)).elim
      | some m => rfl
    have hv : nxV l ≤ now := by have : ¬ now < nxV l := fun e => hq (.inr e)
                                omega
    refine (expire_fire h hsp now hn hc hs hv hso).mono fun e w' ⟨v, fs, he, hfa, q, ho, f⟩ => ?_
    have hne : fs ≠ [] := fun e0 => by
      cases hx : nx l with
      | none => rw [hx] at hs; cases hs
      | some m =>
        obtain ⟨⟨p, hp, h1, h2⟩, _⟩ := nx_some hx
        have hg := get_of_mem (x := p.1) (t := p.2) h.sorted hp
        have d := (hsp.dl hg).2.2
        rw [nxV, hx] at hv
        have hm : m ≤ now := hv
        have := (hfa.2 p.1 p.2).2 ⟨hg, h1, by unfold dl at h2; omega⟩
        rw [e0] at this; cases this
    have hl : fs.length = fs.length - 1 + 1 := by cases fs with
      | nil => exact (hne rfl).elim
      | cons a r => simp
    rw [hl] at ho
    obtain ⟨g, cap, rfl⟩ := own_slice ho
    refine ⟨_, _, _, fireL now fs l, he, q, fire_spi h.sorted hsp hn hfa, late_nx q.sorted (fire_spi h.sorted hsp hn hfa) (fun x t hg => fire_late h.sorted hsp hn hfa hg), fun x t hg => ⟨_, fire_get h.sorted hfa hg, .inr (fire_late h.sorted hsp hn hfa (fire_get h.sorted hfa hg))⟩, f⟩
end Go.Proofs.Ytkjokmfhmppinaa
