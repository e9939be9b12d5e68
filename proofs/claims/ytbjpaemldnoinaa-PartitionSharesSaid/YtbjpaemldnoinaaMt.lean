/- PartitionShares: plain. -/
import Derived.Test.YtbjpaemldnoinaaMo
namespace Go.Proofs.Ytbjpaemldnoinaa
open Go.RowKit
set_option linter.unusedVariables false

theorem countP_or {f g h : Ch → Bool} : ∀ {L : List Ch}, (∀ c ∈ L, f c = true → g c = true ∨ h c = true) → L.countP f ≤ L.countP g + L.countP h
  | [], _ => Nat.le_refl _
  | c :: L, hh => by
    have := countP_or fun x hx => hh x (List.mem_cons_of_mem _ hx)
    have h0 := hh c (by simp)
    rw [List.countP_cons, List.countP_cons, List.countP_cons]
    by_cases e : f c = true
    · rcases h0 e with h0 | h0
      · rw [if_pos e, if_pos h0]; split <;> omega
      · rw [if_pos e, if_pos h0]; split <;> omega
    · rw [if_neg e]; split <;> split <;> omega
def nowP (L : List Ch) (i j : Nat) : Nat := L.countP fun c => c.p == j && c.t == i
theorem nowP_le (L : List Ch) (i j : Nat) : nowP L i j ≤ nowL L i := countP_le fun c _ hp => by
  simp only [Bool.and_eq_true] at hp
  exact hp.2
theorem use_next (L : List Ch) (w i j : Nat) : useL L w (i + 1) j ≤ useL L w i j + nowP L i j := countP_or fun c _ hp => by
  simp only [Bool.and_eq_true, beq_iff_eq, decide_eq_true_eq] at hp ⊢
  omega
theorem use_snoc (L : List Ch) (w i k j : Nat) (c : Bool) : useL (L ++ [⟨i, k, c⟩]) w i j = useL L w i j := by
  rw [useL, useL, List.countP_append]; simp
/-- How much a partition may have used. -/
def AOk (C : CF) (L : List Ch) (i : Nat) : Prop := ∀ j, useL L C.win i j = 0 ∨ (useL L C.win i j : Int) ≤ C.bud j + C.pr - 1
/-- In a tick i, in which ch charges were made. -/
structure SI (W1 : World) (B : Nat) (C : CF) (i ch : Nat) (L : List Ch) (W : World) : Prop where
  pst : ∃ T, T ≤ i ∧ PSt W1 B C T L W
  now : nowL L i = ch
  chp : ch ≤ C.pr
  len : L.length ≤ 8 * i + ch
  tm : ∀ c ∈ L, c.t ≤ i
  a : AOk C L i
  b : ∀ j, nowP L i j = 0 ∨ (useL L C.win i j : Int) < C.bud j
/-- Ahead of a tick i. -/
structure OI (W1 : World) (B : Nat) (C : CF) (i : Nat) (L : List Ch) (W : World) : Prop where
  pst : ∃ T, T ≤ i ∧ PSt W1 B C T L W
  len : L.length ≤ 8 * i
  tm : ∀ c ∈ L, c.t < i
  a : AOk C L i
theorem OI.si {W1 W : World} {B i : Nat} {C : CF} {L : List Ch} (h : OI W1 B C i L W) : SI W1 B C i 0 L W := by
  have hn : nowL L i = 0 := List.countP_eq_zero.2 fun c hc hp => by have := h.tm c hc; simp at hp; omega
  exact ⟨h.pst, hn, Nat.zero_le _, h.len, fun c hc => Nat.le_of_lt (h.tm c hc), h.a, fun j => .inl (by have := nowP_le L i j; omega)⟩
theorem SI.has {W1 W : World} {B i ch k : Nat} {C : CF} {L : List Ch} (h : SI W1 B C i ch L W) (hi : i ≤ 1000) (hk : k < C.np) : Calls Try.prog 27 #[.pointer (some ⟨B, 0, none⟩), .int .i64 (i : Int), .int .i64 (k : Int)] W fun e W' => e = .returned (.tuple #[.bool (decide ((useL L C.win i k : Int) < C.bud k)), .int .i64 0]) ∧ SI W1 B C i ch L W' := by
  obtain ⟨T, hT, hp⟩ := h.pst
  exact (hp.has i k hT (by omega) hk).mono fun e W' ⟨he, hq⟩ => ⟨he, ⟨⟨i, Nat.le_refl _, hq⟩, h.now, h.chp, h.len, h.tm, h.a, h.b⟩⟩
theorem SI.charge {W1 W : World} {B i ch k : Nat} {C : CF} {L : List Ch} (h : SI W1 B C i ch L W) (hi : i ≤ 1000) (hk : k < C.np) (hp : C.pr ≤ 8) (hc : ch < C.pr) (hb : (useL L C.win i k : Int) < C.bud k) : Calls Try.prog 28 #[.pointer (some ⟨B, 0, none⟩), .int .i64 (i : Int), .int .i64 (k : Int), .bool false] W fun e W' => e = .returned (.int .i64 0) ∧ SI W1 B C i (ch + 1) (L ++ [⟨i, k, false⟩]) W' := by
  obtain ⟨T, hT, hpst⟩ := h.pst
  have hn : nowL L i < C.pr := by rw [h.now]; exact hc
  have := hpst.charge i k false hT (by omega) hk (by have := h.len; omega)
  rw [if_pos hn, if_pos hn] at this
  refine this.mono fun e W' ⟨he, hq⟩ => ⟨he, ⟨⟨i, Nat.le_refl _, hq⟩, ?_, hc, by rw [List.length_append]; have := h.len; simp; omega, fun c hc => ?_, fun j => ?_, fun j => ?_⟩⟩
  · rw [nowL, List.countP_append, ← nowL, h.now]; simp
  · rcases List.mem_append.1 hc with hc | hc
    · exact h.tm c hc
    · rw [List.mem_singleton.1 hc]; exact Nat.le_refl _
  · rw [use_snoc]; exact h.a j
  · rw [use_snoc]
    by_cases e : j = k
    · subst e; exact .inr hb
    · refine (h.b j).imp_left fun h0 => ?_
      have e' : (k == j) = false := by simpa using fun h => e h.symm
      rw [nowP, List.countP_append, ← nowP, h0]; simp [e']
/-- Behind a tick: at the next one. -/
def NI (W1 : World) (B : Nat) (C : CF) (i : Nat) (L : List Ch) (W : World) : Prop := (∃ T, T ≤ i + 1 ∧ PSt W1 B C T L W) ∧ L.length ≤ 8 * (i + 1) ∧ (∀ c ∈ L, c.t < i + 1) ∧ AOk C L (i + 1)
theorem SI.ni {W1 W : World} {B i ch : Nat} {C : CF} {L : List Ch} (h : SI W1 B C i ch L W) (hp : C.pr ≤ 8) : NI W1 B C i L W := by
  obtain ⟨T, hT, hpst⟩ := h.pst
  refine ⟨⟨T, by omega, hpst⟩, by have := h.len; have := h.chp; omega, fun c hc => by have := h.tm c hc; omega, fun j => ?_⟩
  have h1 := use_next L C.win i j
  have h2 := nowP_le L i j
  have h3 := h.now
  have h4 := h.chp
  rcases h.b j with hb | hb
  · rcases h.a j with ha | ha
    · exact .inl (by omega)
    · exact .inr (by omega)
  · exact .inr (by omega)
theorem NI.oi {W1 W : World} {B i : Nat} {C : CF} {L : List Ch} (h : NI W1 B C i L W) : OI W1 B C (i + 1) L W := ⟨h.1, h.2.1, h.2.2.1, h.2.2.2⟩
theorem NI.used {W1 W : World} {B i k : Nat} {C : CF} {L : List Ch} (h : NI W1 B C i L W) (hi : i ≤ 1000) (hk : k < C.np) : Calls Try.prog 29 #[.pointer (some ⟨B, 0, none⟩), .int .i64 ((i : Int) + 1), .int .i64 (k : Int)] W fun e W' => e = .returned (.tuple #[.int .i64 (useL L C.win (i + 1) k : Nat), .int .i64 0]) ∧ NI W1 B C i L W' := by
  obtain ⟨⟨T, hT, hp⟩, hr⟩ := h
  have := hp.used (i + 1) k hT (by omega) hk
  rw [show (((i + 1 : Nat)) : Int) = (i : Int) + 1 from by push_cast; rfl] at this
  exact this.mono fun e W' ⟨he, hq⟩ => ⟨he, ⟨_, Nat.le_refl _, hq⟩, hr⟩
theorem NI.budget {W1 W : World} {B i k : Nat} {C : CF} {L : List Ch} (h : NI W1 B C i L W) (hk : k < C.np) : Calls Try.prog 25 #[.pointer (some ⟨B, 0, none⟩), .int .i64 (k : Int)] W fun e W' => e = .returned (.tuple #[.int .i64 (C.bud k), .int .i64 (C.cri k), .int .i64 0]) ∧ NI W1 B C i L W' := by
  obtain ⟨⟨T, hT, hp⟩, hr⟩ := h
  have := budget_any hp.1 k
  have e : buV C k = (C.bud k, C.cri k, 0) := by rw [buV, if_pos ((hasB_iff _ _).2 ⟨by omega, by omega⟩)]; simp only [Int.toNat_natCast]
  rw [e] at this
  exact this.mono fun e W' ⟨he, hf⟩ => ⟨he, ⟨T, hT, hp.rest hf⟩, hr⟩
theorem SI.cellEq {W1 W : World} {B i ch : Nat} {C : CF} {L : List Ch} (h : SI W1 B C i ch L W) : Fr (fun _ => False) W1 W := by obtain ⟨T, _, hp⟩ := h.pst; exact hp.fr0
theorem NI.cellEq {W1 W : World} {B i : Nat} {C : CF} {L : List Ch} (h : NI W1 B C i L W) : Fr (fun _ => False) W1 W := by obtain ⟨⟨T, _, hp⟩, _⟩ := h; exact hp.fr0
theorem OI.cellEq {W1 W : World} {B i : Nat} {C : CF} {L : List Ch} (h : OI W1 B C i L W) : Fr (fun _ => False) W1 W := by obtain ⟨T, _, hp⟩ := h.pst; exact hp.fr0
end Go.Proofs.Ytbjpaemldnoinaa
