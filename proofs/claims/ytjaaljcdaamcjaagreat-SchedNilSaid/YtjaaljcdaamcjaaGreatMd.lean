/- The meter, plain: what it holds is what the list of all charges says. -/
import Derived.Test.YtjaaljcdaamcjaaGreatMc
namespace Go.Proofs.YtjaaljcdaamcjaaGreat.Pa
set_option linter.unusedVariables false

/-- A charge: its time, its partition, whether it is critical. -/
structure Ch where
  t : Nat
  p : Nat
  c : Bool
structure CF where
  win : Nat
  pr : Nat
  np : Nat
  bud : Nat → Int
  cri : Nat → Int
def MQ.cf (q : MQ) : CF := ⟨q.win, q.pr, q.np, q.bud, q.cri⟩
def useL (L : List Ch) (w T p : Nat) : Nat := L.countP fun c => c.p == p && (decide (T < c.t + w) && decide (c.t < T))
def ucrL (L : List Ch) (w T p : Nat) : Nat := L.countP fun c => c.c && (c.p == p && (decide (T < c.t + w) && decide (c.t < T)))
def slotL (L : List Ch) (w T s : Nat) : List (Bool × Nat) := (L.filter fun c => c.t % w == s && decide (T < c.t + w)).map fun c => (c.c, c.p)
structure LI (q : MQ) (L : List Ch) : Prop where
  w0 : 0 < q.win
  w1 : q.win ≤ 1000
  pr0 : 0 < q.pr
  pr1 : q.pr ≤ 8
  np1 : q.np ≤ 8
  time : q.told ≤ 1099511627776
  tm : ∀ c ∈ L, c.t ≤ q.told ∧ c.p < q.np
  few : ∀ t, (L.countP fun c => c.t == t) ≤ q.pr
  len : L.length ≤ 100000
  sl : ∀ s, s < q.win → q.sl s = slotL L q.win q.told s
  use : ∀ p, q.use p = (useL L q.win q.told p : Nat)
  ucr : ∀ p, q.ucr p = (ucrL L q.win q.told p : Nat)
theorem mod_eq {a b w : Nat} (h : a % w = b % w) (h1 : a ≤ b) (h2 : b < a + w) : a = b := by
  have h3 := Nat.sub_mod_eq_zero_of_mod_eq h.symm
  rw [Nat.mod_eq_of_lt (by omega)] at h3
  omega
theorem countP_le {L : List Ch} {f g : Ch → Bool} (h : ∀ c ∈ L, f c = true → g c = true) : L.countP f ≤ L.countP g := List.countP_mono_left h
theorem slot_len {q : MQ} {L : List Ch} (h : LI q L) {s : Nat} (hs : s < q.win) : (q.sl s).length ≤ q.pr := by
  rw [h.sl s hs, slotL, List.length_map, ← List.countP_eq_length_filter]
  by_cases he : ∃ c ∈ L, c.t % q.win = s ∧ q.told < c.t + q.win
  · obtain ⟨c0, hc0, h1, h2⟩ := he
    refine Nat.le_trans (countP_le fun c hc hp => ?_) (h.few c0.t)
    simp only [Bool.and_eq_true, beq_iff_eq, decide_eq_true_eq] at hp ⊢
    have h3 := (h.tm c hc).1
    have h4 := (h.tm c0 hc0).1
    have h5 : c.t % q.win = c0.t % q.win := by rw [hp.1, h1]
    by_cases hle : c.t ≤ c0.t
    · exact mod_eq h5 hle (by omega)
    · exact (mod_eq h5.symm (by omega) (by omega)).symm
  · have : L.countP (fun c => c.t % q.win == s && decide (q.told < c.t + q.win)) = 0 := List.countP_eq_zero.2 fun c hc hp => he ⟨c, hc, by simpa using hp⟩
    omega
theorem slot_part {q : MQ} {L : List Ch} (h : LI q L) {s : Nat} (hs : s < q.win) : ∀ c ∈ q.sl s, c.2 < q.np := by
  intro c hc
  rw [h.sl s hs, slotL] at hc
  obtain ⟨x, hx, rfl⟩ := List.mem_map.1 hc
  exact (h.tm x (List.mem_filter.1 hx).1).2
theorem use_bound {q : MQ} {L : List Ch} (h : LI q L) (p : Nat) : (0 ≤ q.use p ∧ q.use p ≤ 100000) ∧ (0 ≤ q.ucr p ∧ q.ucr p ≤ 100000) := by
  rw [h.use, h.ucr]
  have h1 : useL L q.win q.told p ≤ L.length := List.countP_le_length
  have h2 : ucrL L q.win q.told p ≤ L.length := List.countP_le_length
  have := h.len
  omega
theorem count4 {f1 f2 g1 g2 : Ch → Bool} : ∀ {L : List Ch}, (∀ c ∈ L, (if f1 c = true then 1 else 0) + (if f2 c = true then 1 else 0) = (if g1 c = true then 1 else 0) + (if g2 c = true then 1 else 0)) → L.countP f1 + L.countP f2 = L.countP g1 + L.countP g2
  | [], _ => rfl
  | c :: L, h => by
    have := count4 fun x hx => h x (List.mem_cons_of_mem _ hx)
    have h0 := h c (by simp)
    rw [List.countP_cons, List.countP_cons, List.countP_cons, List.countP_cons]
    omega
theorem cu_slot (L : List Ch) (w T s p : Nat) : cu (slotL L w T s) p = L.countP fun c => c.p == p && (c.t % w == s && decide (T < c.t + w)) := by
  rw [cu, slotL, List.countP_map, List.countP_filter]; rfl
theorem cc_slot (L : List Ch) (w T s p : Nat) : cc (slotL L w T s) p = L.countP fun c => c.c && c.p == p && (c.t % w == s && decide (T < c.t + w)) := by
  rw [cc, slotL, List.countP_map, List.countP_filter]; rfl
def nextQ (q : MQ) : MQ := { cntQ q (q.sl (q.told % q.win)) 1 with told := q.told + 1 }
def backQ (q : MQ) : MQ := cntQ (nextQ q) (q.sl ((q.told + 1) % q.win)) (-1)
def stepQ (q : MQ) : MQ := { backQ q with sl := updL q.sl ((q.told + 1) % q.win) [] }
theorem slot_now {t T w : Nat} (hw : 0 < w) (ht : t ≤ T) : (t % w = T % w ∧ T < t + w) ↔ t = T := by
  constructor
  · rintro ⟨h1, h2⟩; exact mod_eq h1 ht h2
  · rintro rfl; exact ⟨rfl, by omega⟩
theorem slot_old {t T w : Nat} (hw : 0 < w) (ht : t ≤ T) : (t % w = (T + 1) % w ∧ T < t + w) ↔ t + w = T + 1 := by
  constructor
  · rintro ⟨h1, h2⟩
    by_cases h3 : t + w = T + 1
    · exact h3
    · have := mod_eq h1 (by omega) (by omega); omega
  · intro h; exact ⟨by rw [← h, Nat.add_mod_right], by omega⟩
theorem LI.step {q : MQ} {L : List Ch} (h : LI q L) (ht : q.told < 1099511627776) : LI (stepQ q) L := by
  have hw := h.w0
  have h1 := h.sl (q.told % q.win) (Nat.mod_lt _ hw)
  have h2 := h.sl ((q.told + 1) % q.win) (Nat.mod_lt _ hw)
  refine ⟨h.w0, h.w1, h.pr0, h.pr1, h.np1, ht, fun c hc => ⟨by have := (h.tm c hc).1; show c.t ≤ q.told + 1; omega, (h.tm c hc).2⟩, h.few, h.len, fun s hs => ?_, fun p => ?_, fun p => ?_⟩
  · show updL q.sl ((q.told + 1) % q.win) [] s = slotL L q.win (q.told + 1) s
    by_cases e : s = (q.told + 1) % q.win
    · subst e
      rw [updL_same, slotL, List.filter_eq_nil_iff.2, List.map_nil]
      intro c hc hp
      simp only [Bool.and_eq_true, beq_iff_eq, decide_eq_true_eq] at hp
      have h3 := (h.tm c hc).1
      have := mod_eq hp.1 (by omega) (by omega)
      omega
    · rw [updL_other e, h.sl s hs, slotL, slotL]
      congr 1
      refine List.filter_congr fun c hc => ?_
      have h3 := (h.tm c hc).1
      by_cases hm : c.t % q.win = s
      · have hne : c.t + q.win ≠ q.told + 1 := fun e2 => e (by rw [← hm, ← e2, Nat.add_mod_right])
        have : (q.told < c.t + q.win) ↔ (q.told + 1 < c.t + q.win) := by omega
        simp [hm, this]
      · have e3 : (c.t % q.win == s) = false := by simpa using hm
        show (c.t % q.win == s && _) = (c.t % q.win == s && _)
        rw [e3]; rfl
  · show q.use p + 1 * ((cu (q.sl (q.told % q.win)) p : Nat) : Int) + -1 * ((cu (q.sl ((q.told + 1) % q.win)) p : Nat) : Int) = (useL L q.win (q.told + 1) p : Nat)
    rw [h1, h2, cu_slot, cu_slot, h.use]
    have := count4 (L := L) (f1 := fun c => c.p == p && (decide (q.told + 1 < c.t + q.win) && decide (c.t < q.told + 1))) (f2 := fun c => c.p == p && (c.t % q.win == (q.told + 1) % q.win && decide (q.told < c.t + q.win))) (g1 := fun c => c.p == p && (decide (q.told < c.t + q.win) && decide (c.t < q.told))) (g2 := fun c => c.p == p && (c.t % q.win == q.told % q.win && decide (q.told < c.t + q.win))) (fun c hc => by
      have h3 := (h.tm c hc).1
      have s1 := slot_now hw h3
      have s2 := slot_old hw h3
      simp only [Bool.and_eq_true, beq_iff_eq, decide_eq_true_eq, s1, s2]
      by_cases hp : c.p = p
      · simp only [hp, true_and]
        split <;> split <;> split <;> split <;> omega
      · simp only [hp, false_and, if_false])
    rw [useL, useL]
    omega
  · show q.ucr p + 1 * ((cc (q.sl (q.told % q.win)) p : Nat) : Int) + -1 * ((cc (q.sl ((q.told + 1) % q.win)) p : Nat) : Int) = (ucrL L q.win (q.told + 1) p : Nat)
    rw [h1, h2, cc_slot, cc_slot, h.ucr]
    have := count4 (L := L) (f1 := fun c => c.c && (c.p == p && (decide (q.told + 1 < c.t + q.win) && decide (c.t < q.told + 1)))) (f2 := fun c => c.c && c.p == p && (c.t % q.win == (q.told + 1) % q.win && decide (q.told < c.t + q.win))) (g1 := fun c => c.c && (c.p == p && (decide (q.told < c.t + q.win) && decide (c.t < q.told)))) (g2 := fun c => c.c && c.p == p && (c.t % q.win == q.told % q.win && decide (q.told < c.t + q.win))) (fun c hc => by
      have h3 := (h.tm c hc).1
      have s1 := slot_now hw h3
      have s2 := slot_old hw h3
      simp only [Bool.and_eq_true, beq_iff_eq, decide_eq_true_eq, s1, s2]
      by_cases hp : c.c = true ∧ c.p = p
      · obtain ⟨hp1, hp2⟩ := hp
        simp only [hp1, hp2, true_and]
        split <;> split <;> split <;> split <;> omega
      · rw [if_neg (fun e => hp ⟨e.1, e.2.1⟩), if_neg (fun e => hp e.1), if_neg (fun e => hp ⟨e.1, e.2.1⟩), if_neg (fun e => hp e.1)])
    rw [ucrL, ucrL]
    omega
/-- A time that is told, when all that counts is gone. -/
theorem LI.jump {q : MQ} {L : List Ch} (h : LI q L) {T0 now : Nat} (hT : ∀ c ∈ L, c.t ≤ T0) (h0 : T0 + q.win ≤ q.told) (h1 : q.told ≤ now) (h2 : now ≤ 1099511627776) : LI { q with told := now } L := by
  refine ⟨h.w0, h.w1, h.pr0, h.pr1, h.np1, h2, fun c hc => ⟨by have := (h.tm c hc).1; show c.t ≤ now; omega, (h.tm c hc).2⟩, h.few, h.len, fun s hs => ?_, fun p => ?_, fun p => ?_⟩
  · show q.sl s = slotL L q.win now s
    rw [h.sl s hs, slotL, slotL]
    congr 1
    refine List.filter_congr fun c hc => ?_
    have := hT c hc
    have e1 : ¬ q.told < c.t + q.win := by omega
    have e2 : ¬ now < c.t + q.win := by omega
    simp [e1, e2]
  · show q.use p = (useL L q.win now p : Nat)
    rw [h.use, useL, useL]
    congr 1
    refine List.countP_congr fun c hc => ?_
    have := hT c hc
    have e1 : ¬ q.told < c.t + q.win := by omega
    have e2 : ¬ now < c.t + q.win := by omega
    simp [e1, e2]
  · show q.ucr p = (ucrL L q.win now p : Nat)
    rw [h.ucr, ucrL, ucrL]
    congr 1
    refine List.countP_congr fun c hc => ?_
    have := hT c hc
    have e1 : ¬ q.told < c.t + q.win := by omega
    have e2 : ¬ now < c.t + q.win := by omega
    simp [e1, e2]
theorem slot_told {q : MQ} {L : List Ch} (h : LI q L) : q.sl (q.told % q.win) = (L.filter fun c => c.t == q.told).map fun c => (c.c, c.p) := by
  rw [h.sl _ (Nat.mod_lt _ h.w0), slotL]
  congr 1
  refine List.filter_congr fun c hc => ?_
  have := slot_now h.w0 (h.tm c hc).1
  rw [Bool.eq_iff_iff]
  simp only [Bool.and_eq_true, beq_iff_eq, decide_eq_true_eq]
  exact this
/-- A charge more. -/
theorem LI.charge {q : MQ} {L : List Ch} (h : LI q L) {p : Nat} (hp : p < q.np) (c : Bool) (hl : (q.sl (q.told % q.win)).length < q.pr) (hL : L.length < 100000) : LI { q with sl := updL q.sl (q.told % q.win) (q.sl (q.told % q.win) ++ [(c, p)]) } (L ++ [⟨q.told, p, c⟩]) := by
  have hl' := hl
  rw [slot_told h, List.length_map, ← List.countP_eq_length_filter] at hl'
  refine ⟨h.w0, h.w1, h.pr0, h.pr1, h.np1, h.time, fun x hx => ?_, fun t => ?_, by rw [List.length_append]; exact hL, fun s hs => ?_, fun p' => ?_, fun p' => ?_⟩
  · rcases List.mem_append.1 hx with hx | hx
    · exact h.tm x hx
    · rw [List.mem_singleton.1 hx]; exact ⟨Nat.le_refl _, hp⟩
  · rw [List.countP_append]
    by_cases e : q.told = t
    · subst e
      have : [(⟨q.told, p, c⟩ : Ch)].countP (fun c => c.t == q.told) = 1 := by simp
      rw [this]; exact hl'
    · have : [(⟨q.told, p, c⟩ : Ch)].countP (fun c => c.t == t) = 0 := by simp [e]
      rw [this]; exact h.few t
  · show updL q.sl _ _ s = slotL (L ++ [⟨q.told, p, c⟩]) q.win q.told s
    rw [slotL, List.filter_append, List.map_append]
    by_cases e : s = q.told % q.win
    · subst e
      rw [updL_same, h.sl _ hs, slotL]
      rw [List.filter_cons_of_pos (by simp; exact h.w0)]; rfl
    · rw [updL_other e, h.sl s hs, slotL, List.filter_cons_of_neg (by simp; intro e2; exact absurd e2.symm e)]; simp
  · show q.use p' = (useL (L ++ [⟨q.told, p, c⟩]) q.win q.told p' : Nat)
    rw [h.use, useL, useL, List.countP_append]
    simp
  · show q.ucr p' = (ucrL (L ++ [⟨q.told, p, c⟩]) q.win q.told p' : Nat)
    rw [h.ucr, ucrL, ucrL, List.countP_append]
    simp
end Go.Proofs.YtjaaljcdaamcjaaGreat.Pa
