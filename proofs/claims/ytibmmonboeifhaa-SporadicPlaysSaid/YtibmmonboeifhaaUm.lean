/- Plain: what follows from the server's rules (asking changes nothing; sums; bounds). -/
import Derived.Test.YtibmmonboeifhaaUk
namespace Go.Proofs.Ytibmmonboeifhaa
set_option linter.unusedVariables false

theorem takeL_takeL {x y : Int} (h : x ≤ y) : ∀ (l : List (Int × Int)) (b : Int), takeL y (takeL x b l).1 (takeL x b l).2 = takeL y b l
  | [], b => rfl
  | z :: r, b => by
    rw [takeL]
    split
    · rename_i hz
      rw [takeL_takeL h r, takeL, if_pos (by omega)]
    · rfl
theorem takeA_takeA {x y : Int} (h : x ≤ y) (s : AQ) : takeA y (takeA x s) = takeA y s := by
  have e := takeL_takeL h s.l s.bud
  show AQ.mk _ _ (takeL y (takeL x s.bud s.l).1 (takeL x s.bud s.l).2).1 _ (takeL y (takeL x s.bud s.l).1 (takeL x s.bud s.l).2).2 _ _ _ = _
  rw [e]; rfl
theorem endA_per (s : AQ) : (endA s).per = s.per := by rw [endA]; split <;> rfl
theorem endA_low (s : AQ) : (endA s).low = s.low := by rw [endA]; split <;> rfl
theorem endA_cap (s : AQ) : (endA s).cap = s.cap := by rw [endA]; split <;> rfl
theorem endA_ran (s : AQ) : (endA s).ran = s.ran := by rw [endA]; split <;> rfl
theorem endA_told (s : AQ) : (endA s).told = s.told := by rw [endA]; split <;> rfl
theorem endA_bud (s : AQ) : (endA s).bud = s.bud := by rw [endA]; split <;> rfl
theorem endA_chk (s : AQ) : (endA s).chk = 0 := by rw [endA]; split <;> rfl
theorem tellA_yes {s : AQ} {now : Int} (h : 0 < s.chk ∧ s.ran + 1 < now) : tellA now s = { takeA now (endA (takeA (s.ran + 1) s)) with told := now } := by rw [tellA, if_pos h]
theorem tellA_no {s : AQ} {now : Int} (h : ¬ (0 < s.chk ∧ s.ran + 1 < now)) : tellA now s = { takeA now s with told := now } := by rw [tellA, if_neg h]
theorem tellA_per (now : Int) (s : AQ) : (tellA now s).per = s.per := by
  by_cases h : 0 < s.chk ∧ s.ran + 1 < now
  · rw [tellA_yes h]; exact endA_per _
  · rw [tellA_no h]; rfl
theorem tellA_cap (now : Int) (s : AQ) : (tellA now s).cap = s.cap := by
  by_cases h : 0 < s.chk ∧ s.ran + 1 < now
  · rw [tellA_yes h]; exact endA_cap _
  · rw [tellA_no h]; rfl
theorem tellA_ran (now : Int) (s : AQ) : (tellA now s).ran = s.ran := by
  by_cases h : 0 < s.chk ∧ s.ran + 1 < now
  · rw [tellA_yes h]; exact endA_ran _
  · rw [tellA_no h]; rfl
theorem tellA_told (now : Int) (s : AQ) : (tellA now s).told = now := rfl
theorem tellA_chk (now : Int) (s : AQ) : (tellA now s).chk = if 0 < s.chk ∧ s.ran + 1 < now then 0 else s.chk := by
  by_cases h : 0 < s.chk ∧ s.ran + 1 < now
  · rw [tellA_yes h, if_pos h]; exact endA_chk _
  · rw [tellA_no h, if_neg h]; rfl
/-- A server that is told a time and then a later one is as if told the later one alone. -/
theorem tell_tell {x y : Int} (h : x ≤ y) (s : AQ) : tellA y (tellA x s) = tellA y s := by
  by_cases hx : 0 < s.chk ∧ s.ran + 1 < x
  · have hy : 0 < s.chk ∧ s.ran + 1 < y := ⟨hx.1, by omega⟩
    have e : (tellA x s).chk = 0 := by rw [tellA_chk, if_pos hx]
    rw [tellA_no (by rw [e]; omega), tellA_yes hy, tellA_yes hx]
    have := takeA_takeA h (endA (takeA (s.ran + 1) s))
    show AQ.mk (takeA y (takeA x (endA (takeA (s.ran + 1) s)))).per (takeA y (takeA x (endA (takeA (s.ran + 1) s)))).low (takeA y (takeA x (endA (takeA (s.ran + 1) s)))).bud (takeA y (takeA x (endA (takeA (s.ran + 1) s)))).cap (takeA y (takeA x (endA (takeA (s.ran + 1) s)))).l (takeA y (takeA x (endA (takeA (s.ran + 1) s)))).chk (takeA y (takeA x (endA (takeA (s.ran + 1) s)))).ran y = _
    rw [this]
  · rw [tellA_no hx]
    by_cases hy : 0 < s.chk ∧ s.ran + 1 < y
    · have hy' : 0 < ({ takeA x s with told := x } : AQ).chk ∧ ({ takeA x s with told := x } : AQ).ran + 1 < y := hy
      rw [tellA_yes hy', tellA_yes hy]
      have e : takeA (s.ran + 1) ({ takeA x s with told := x } : AQ) = { takeA (s.ran + 1) s with told := x } := by
        have := takeA_takeA (x := x) (y := s.ran + 1) (by have := hx; omega) s
        show AQ.mk (takeA (s.ran + 1) (takeA x s)).per (takeA (s.ran + 1) (takeA x s)).low (takeA (s.ran + 1) (takeA x s)).bud (takeA (s.ran + 1) (takeA x s)).cap (takeA (s.ran + 1) (takeA x s)).l (takeA (s.ran + 1) (takeA x s)).chk (takeA (s.ran + 1) (takeA x s)).ran x = _
        rw [this]
      show ({ takeA y (endA (takeA (s.ran + 1) ({ takeA x s with told := x } : AQ))) with told := y } : AQ) = _
      rw [e]
      have e2 : endA ({ takeA (s.ran + 1) s with told := x } : AQ) = { endA (takeA (s.ran + 1) s) with told := x } := by
        rw [endA, endA]
        show (if (takeA (s.ran + 1) s).l.length < (takeA (s.ran + 1) s).cap then _ else _) = _
        split <;> rfl
      rw [e2]; rfl
    · have hy' : ¬ (0 < ({ takeA x s with told := x } : AQ).chk ∧ ({ takeA x s with told := x } : AQ).ran + 1 < y) := hy
      rw [tellA_no hy', tellA_no hy]
      have := takeA_takeA h s
      show AQ.mk (takeA y (takeA x s)).per (takeA y (takeA x s)).low (takeA y (takeA x s)).bud (takeA y (takeA x s)).cap (takeA y (takeA x s)).l (takeA y (takeA x s)).chk (takeA y (takeA x s)).ran y = _
      rw [this]

/-- What always holds before a run at the time now. -/
structure GI (T : Int) (s : AQ) (now : Int) : Prop where
  ai : AI T s
  per : 1 ≤ s.per
  told : s.told ≤ now
  ran : s.ran < now
  j : 0 < s.chk → 0 < s.bud
  k : ∀ x ∈ s.l, x.1 ≤ s.ran + 1 + s.per
  n0 : 0 ≤ now
theorem GI.later {T : Int} {s : AQ} {x y : Int} (h : GI T s x) (hxy : x ≤ y) : GI T s y := ⟨h.ai, h.per, Int.le_trans h.told hxy, Int.lt_of_lt_of_le h.ran hxy, h.j, h.k, Int.le_trans h.n0 hxy⟩
theorem takeA_k {u m : Int} {s : AQ} (h : ∀ x ∈ s.l, x.1 ≤ m) : ∀ x ∈ (takeA u s).l, x.1 ≤ m := fun x hx => h x ((takeL_suf u s.l s.bud).subset hx)
theorem endA_k {m : Int} {s : AQ} (h : ∀ x ∈ s.l, x.1 ≤ m) (hm : s.ran + 1 + s.per ≤ m) (hc : 0 < s.cap) : ∀ x ∈ (endA s).l, x.1 ≤ m := by
  intro x hx
  rw [endA] at hx
  split at hx
  · rcases List.mem_append.1 hx with hx | hx
    · exact h x hx
    · rw [List.mem_singleton.1 hx]; exact hm
  · rename_i hl
    have hne : s.l ≠ [] := fun e => hl (by rw [e]; exact hc)
    have hs := split_last hne
    have hmem : s.l.getLastD (0, 0) ∈ s.l := by rw [hs]; simp
    rcases List.mem_append.1 hx with hx | hx
    · exact h x (by rw [hs]; simp [hx])
    · rw [List.mem_singleton.1 hx]
      show (if _ then _ else _) ≤ m
      split
      · exact hm
      · exact h _ hmem
theorem GI.tell {T : Int} {s : AQ} {now : Int} (h : GI T s now) : GI T (tellA now s) now := by
  refine ⟨h.ai.tell now, by rw [tellA_per]; exact h.per, Int.le_refl _, by rw [tellA_ran]; exact h.ran, fun hc => ?_, ?_, h.n0⟩
  · rw [tellA_chk] at hc
    split at hc
    · exact absurd hc (by omega)
    · rename_i hn
      have hb := h.j hc
      rw [tellA_no hn]
      exact Int.lt_of_lt_of_le hb (takeL_ge now _ _ h.ai.amt)
  · rw [tellA_ran, tellA_per]
    by_cases hn : 0 < s.chk ∧ s.ran + 1 < now
    · rw [tellA_yes hn]
      exact takeA_k (endA_k (takeA_k h.k) (Int.le_refl _) h.ai.cap0)
    · rw [tellA_no hn]
      exact takeA_k h.k
theorem GI.ask {T : Int} {s : AQ} {now : Int} (h : GI T s now) (h1 : now ≤ 1099511627776) : askA s now = 0 := by
  have := h.n0; have := h.told
  rw [askA, if_neg (by omega), if_neg (by omega)]
theorem GI.runE {T : Int} {s : AQ} {now : Int} (h : GI T s now) (h1 : now ≤ 1099511627776) : runEA s now = 0 := by
  have := h.ran
  rw [runEA, if_neg (by rw [h.ask h1]; simp), if_neg (by omega)]
theorem GI.bud {T : Int} {s : AQ} {now : Int} (h : GI T s now) (h1 : now ≤ 1099511627776) : budV now s = ((tellA now s).bud, 0) ∧ budS now s = tellA now s := by
  have := h.ask h1
  exact ⟨by rw [budV, if_neg (by simpa using this)], by rw [budS, if_neg (by simpa using this)]⟩
theorem GI.runF {T : Int} {s : AQ} {now : Int} (h : GI T s now) (h1 : now ≤ 1099511627776) (hb : (tellA now s).bud = 0) : runV now s = 18 ∧ runS now s = tellA now s := by
  have := h.runE h1
  exact ⟨by rw [runV, if_neg (by rw [this]; simp), if_pos hb], by rw [runS, if_neg (by rw [this]; simp), if_pos hb]⟩
theorem GI.runT {T : Int} {s : AQ} {now : Int} (h : GI T s now) (h1 : now ≤ 1099511627776) (hb : (tellA now s).bud ≠ 0) : runV now s = 0 ∧ runS now s = if (tellA now s).bud = 1 then endA (ranA now (tellA now s)) else ranA now (tellA now s) := by
  have := h.runE h1
  refine ⟨by rw [runV, if_neg (by rw [this]; simp), if_neg hb], ?_⟩
  rw [runS, if_neg (by rw [this]; simp), if_neg hb]
  by_cases e : (tellA now s).bud = 1
  · rw [if_pos e, if_pos (by show (tellA now s).bud - 1 = 0; omega)]
  · rw [if_neg e, if_neg (by show ¬ (tellA now s).bud - 1 = 0; omega)]
theorem GI.ranned {T : Int} {s : AQ} {now : Int} (h : GI T s now) (h1 : now ≤ 1099511627776) : GI T (runS now s) (now + 1) := by
  have ht := h.tell
  have hn := h.n0
  by_cases hb : (tellA now s).bud = 0
  · rw [(h.runF h1 hb).2]
    exact ht.later (by omega)
  · rw [(h.runT h1 hb).2]
    have hr := ht.ai.ran now hn h1 hb
    have hbb := ht.ai.bud0
    have hk : ∀ x ∈ (ranA now (tellA now s)).l, x.1 ≤ now + 1 + s.per := fun x hx => by
      have := ht.k x hx
      have := ht.ran
      rw [tellA_per] at *
      omega
    split
    · refine ⟨hr.ended, by rw [endA_per]; exact ht.per, by rw [endA_told]; show now ≤ now + 1; omega, by rw [endA_ran]; show now < now + 1; omega, fun hc => absurd hc (by rw [endA_chk]; omega), ?_, by omega⟩
      rw [endA_ran, endA_per]
      have hp : (ranA now (tellA now s)).per = s.per := tellA_per now s
      show ∀ x ∈ (endA (ranA now (tellA now s))).l, x.1 ≤ now + 1 + (ranA now (tellA now s)).per
      rw [hp]
      exact endA_k hk (by show now + 1 + (ranA now (tellA now s)).per ≤ _; rw [hp]; exact Int.le_refl _) hr.cap0
    · rename_i hz
      refine ⟨hr, ht.per, by show now ≤ now + 1; omega, by show now < now + 1; omega, fun _ => by show 0 < (tellA now s).bud - 1; omega, ?_, by omega⟩
      show ∀ x ∈ (ranA now (tellA now s)).l, x.1 ≤ now + 1 + (ranA now (tellA now s)).per
      rw [show (ranA now (tellA now s)).per = s.per from tellA_per now s]
      exact hk
theorem new_gi (b p : Int) (n : Nat) (l : Int) (h : okP b p n l = true) : GI b (newA b p n l) 0 := by
  obtain ⟨h1, h2, h3, h4, h5, h6⟩ := (okP_iff _ _ _ _).1 h
  exact ⟨new_inv b p n l h, by show 1 ≤ p; omega, Int.le_refl _, by show (-1 : Int) < 0; omega, fun hc => absurd hc (by show ¬ (0 : Int) < 0; omega), fun x hx => (nomatch hx), Int.le_refl _⟩
end Go.Proofs.Ytibmmonboeifhaa
