/- Plain: the lines of a text, read by the code's way and by the specification's; numerals; a text read back. -/
import Derived.Test.YtnnmmkimdknbgaaDoorTj
namespace Go.Proofs.YtnnmmkimdknbgaaDoor
open Go.RowKit
set_option linter.unusedVariables false

/-! ### The lines of a text -/
/-- The first line, with its line feed if there is one. -/
def lineOf : List UInt8 → List UInt8
  | [] => []
  | b :: r => if b = 10 then [10] else b :: lineOf r
/-- The value of a line behind its label p. -/
def decL (d : List UInt8) : Option Nat := if d.length = 0 then none else if 9 < d.length then none else if 1 < d.length ∧ d.head? = some 48 then none else decF 0 d
def valL (p line : List UInt8) : Option Nat := if Lib.hasPrefix line p = true ∧ Lib.hasSuffix (Lib.trimPrefix line p) [10] = true then decL (Lib.trimSuffix (Lib.trimPrefix line p) [10]) else none
/-- The label p and a number's line at the head of a list: the number, the count of the bytes. -/
def lineVL (p bs : List UInt8) : Option (Nat × Nat) := if p.isPrefixOf bs = true then (numV (bs.drop p.length)).map (fun q => (q.1, p.length + q.2 + 1)) else none

def dig (b : UInt8) : Prop := 48 ≤ b.toNat ∧ b.toNat ≤ 57
instance (b : UInt8) : Decidable (dig b) := by unfold dig; infer_instance
theorem span (bs : List UInt8) : ∃ d t, bs = d ++ t ∧ (∀ b ∈ d, dig b) ∧ (t = [] ∨ ∃ b t', t = b :: t' ∧ ¬ dig b) := by
  induction bs with
  | nil => exact ⟨[], [], rfl, by simp, .inl rfl⟩
  | cons b r ih =>
    by_cases h : dig b
    · obtain ⟨d, t, rfl, h1, h2⟩ := ih
      exact ⟨b :: d, t, rfl, fun x hx => (List.mem_cons.1 hx).elim (fun e => e ▸ h) (h1 x), h2⟩
    · exact ⟨[], b :: r, rfl, by simp, .inr ⟨b, r, rfl, h⟩⟩
theorem decF_dig : ∀ (d : List UInt8) (n : Nat), (∀ b ∈ d, dig b) → ∃ v, decF n d = some v
  | [], n, _ => ⟨n, rfl⟩
  | b :: d, n, h => by
    have hb : 48 ≤ b.toNat ∧ b.toNat ≤ 57 := h b (by simp)
    rw [decF, if_pos hb]
    exact decF_dig d _ fun x hx => h x (by simp [hx])
theorem decF_bad : ∀ (d : List UInt8) (n : Nat) (b : UInt8), b ∈ d → ¬ dig b → decF n d = none
  | [], _, _, h, _ => by simp at h
  | c :: d, n, b, h, hb => by
    rw [decF]
    split
    · rename_i hc
      rcases List.mem_cons.1 h with rfl | h
      · exact absurd hc hb
      · exact decF_bad d _ b h hb
    · rfl
theorem decL_bad (d : List UInt8) (b : UInt8) (h : b ∈ d) (hb : ¬ dig b) : decL d = none := by
  rw [decL]; split; rfl; split; rfl; split; rfl; exact decF_bad d 0 b h hb
theorem scan_digs : ∀ (d t : List UInt8) (f n v : Nat), (∀ b ∈ d, dig b) → d.length ≤ f → (d.length = f ∨ t = [] ∨ ∃ b t', t = b :: t' ∧ ¬ dig b) → decF n d = some v → scan f n (d ++ t) = (v, d.length)
  | [], t, f, n, v, _, _, ht, hv => by
    obtain rfl : n = v := by simpa [decF] using hv
    cases f with
    | zero => rfl
    | succ f =>
      rcases ht with h | rfl | ⟨b, t', rfl, hb⟩
      · simp at h
      · rfl
      · show scan (f + 1) n (b :: t') = _
        rw [scan, if_neg (show ¬ (48 ≤ b.toNat ∧ b.toNat ≤ 57) from hb)]; rfl
  | b :: d, t, f, n, v, hd, hl, ht, hv => by
    have hb : 48 ≤ b.toNat ∧ b.toNat ≤ 57 := hd b (by simp)
    cases f with
    | zero => simp at hl
    | succ f =>
      rw [decF, if_pos hb] at hv
      have ih := scan_digs d t f _ v (fun x hx => hd x (by simp [hx])) (by simpa using hl) (by simpa using ht) hv
      show scan (f + 1) n (b :: (d ++ t)) = _
      rw [scan, if_pos hb, ih]; rfl
theorem lineOf_app : ∀ (p r : List UInt8), (10 : UInt8) ∉ p → lineOf (p ++ r) = p ++ lineOf r
  | [], r, _ => rfl
  | b :: p, r, h => by
    have hb : ¬ b = 10 := fun e => h (by simp [e])
    show lineOf (b :: (p ++ r)) = _
    rw [lineOf, if_neg hb, lineOf_app p r fun hh => h (by simp [hh])]; rfl
theorem lineOf_prefix : ∀ bs : List UInt8, lineOf bs <+: bs
  | [] => List.prefix_rfl
  | b :: r => by
    rw [lineOf]; split
    · rename_i h; subst h; exact ⟨r, rfl⟩
    · exact (List.prefix_cons_inj b).2 (lineOf_prefix r)
theorem lineOf_len (bs : List UInt8) : (lineOf bs).length ≤ bs.length := (lineOf_prefix bs).length_le
theorem lineOf_pos {bs : List UInt8} (h : bs ≠ []) : 0 < (lineOf bs).length := by
  cases bs with
  | nil => exact absurd rfl h
  | cons b r => rw [lineOf]; split <;> simp
theorem digs10 {d : List UInt8} (h : ∀ b ∈ d, dig b) : (10 : UInt8) ∉ d := fun hh => by have := h _ hh; exact absurd this (by decide)
theorem suff_snoc (l : List UInt8) (b : UInt8) : Lib.hasSuffix (l ++ [b]) [10] = decide (b = 10) := by
  rw [Bool.eq_iff_iff]
  simp [Lib.hasSuffix]
  exact eq_comm
theorem suff_digs {d : List UInt8} (h : ∀ b ∈ d, dig b) : Lib.hasSuffix d [10] = false := by
  rw [Bool.eq_false_iff]
  intro hs
  obtain ⟨u, hu⟩ := (List.isSuffixOf_iff_suffix (l₁ := [10]) (l₂ := d)).1 hs
  exact digs10 h (by rw [← hu]; simp)
theorem trim_snoc (l : List UInt8) : Lib.trimSuffix (l ++ [10]) [10] = l := by
  rw [Lib.trimSuffix, if_pos (by rw [suff_snoc]; rfl)]; simp

/-- What stands behind the label. -/
def tailV (r : List UInt8) : Option Nat := if Lib.hasSuffix (lineOf r) [10] = true then decL (Lib.trimSuffix (lineOf r) [10]) else none
theorem tail_num (r : List UInt8) : tailV r = (numV r).map (·.1) ∧ ∀ v c, numV r = some (v, c) → (lineOf r).length = c + 1 := by
  obtain ⟨d, t, rfl, hd, ht⟩ := span r
  obtain ⟨v, hv⟩ := decF_dig d 0 hd
  have h10 := digs10 hd
  have hlo := lineOf_app d t h10
  by_cases h9 : 9 < d.length
  · -- ten digits and more
    have hs2 : (scan 10 0 (d ++ t)).2 = 10 := by
      have e : d ++ t = d.take 10 ++ (d.drop 10 ++ t) := by rw [← List.append_assoc, List.take_append_drop]
      obtain ⟨v', hv'⟩ := decF_dig (d.take 10) 0 fun b hb => hd b (List.mem_of_mem_take hb)
      have hl : (d.take 10).length = 10 := by rw [List.length_take]; omega
      rw [e, scan_digs _ _ 10 0 v' (fun b hb => hd b (List.mem_of_mem_take hb)) (by omega) (.inl hl) hv']
      exact hl
    have hn : numV (d ++ t) = none := by rw [numV, if_pos (.inr (.inl (by omega)))]
    rw [hn]
    refine ⟨?_, fun v c h => by simp at h⟩
    rw [tailV]
    split
    · rename_i hs
      rw [hlo] at hs ⊢
      have hll : lineOf t ≠ [] := fun e => by rw [e, List.append_nil, suff_digs hd] at hs; simp at hs
      have : 9 < (Lib.trimSuffix (d ++ lineOf t) [10]).length := by
        rw [Lib.trimSuffix, if_pos hs, List.length_take, List.length_append]
        have := List.length_pos_iff.2 hll
        simp; omega
      rw [decL, if_neg (by omega), if_pos this]; rfl
    · rfl
  · have hs := scan_digs d t 10 0 v hd (by omega) (.inr ht) hv
    have hnum : numV (d ++ t) = if d.length < 1 ∨ 9 < d.length ∨ (1 < d.length ∧ (d ++ t).head? = some 48) ∨ (d ++ t)[d.length]? ≠ some 10 then none else some (v, d.length) := by rw [numV, hs]
    have hix : (d ++ t)[d.length]? = t.head? := by rw [List.getElem?_append_right (Nat.le_refl _), Nat.sub_self, List.head?_eq_getElem?]
    rw [hix] at hnum
    rcases ht with rfl | ⟨b, t', rfl, hb⟩
    · have hn : numV (d ++ []) = none := by rw [hnum, if_pos (.inr (.inr (.inr (by simp))))]
      rw [hn]
      refine ⟨?_, fun v c h => by simp at h⟩
      rw [tailV, hlo, lineOf, List.append_nil, if_neg (by rw [suff_digs hd]; simp)]; rfl
    · by_cases hb10 : b = 10
      · subst hb10
        have hl1 : lineOf (10 :: t') = [10] := by rw [lineOf, if_pos rfl]
        rw [hl1] at hlo
        have ht1 : tailV (d ++ 10 :: t') = decL d := by rw [tailV, hlo, if_pos (by rw [suff_snoc]; rfl), trim_snoc]
        rw [ht1, hlo]
        constructor
        · rw [hnum, decL]
          by_cases h0 : d.length = 0
          · rw [if_pos h0, if_pos (.inl (by omega))]; rfl
          · have hh : (d ++ 10 :: t').head? = d.head? := by cases d with | nil => simp at h0 | cons => rfl
            rw [if_neg h0, if_neg h9, hh]
            by_cases hz : 1 < d.length ∧ d.head? = some 48
            · rw [if_pos hz, if_pos (.inr (.inr (.inl hz)))]; rfl
            · rw [if_neg hz, if_neg ?_, hv]; rfl
              rintro (h1 | h1 | h1 | h1)
              · omega
              · omega
              · exact hz h1
              · simp at h1
        · intro v' c h
          rw [hnum] at h
          split at h
          · simp at h
          · obtain ⟨-, rfl⟩ := Prod.mk.inj (Option.some.inj h); simp
      · have hn : numV (d ++ b :: t') = none := by rw [hnum, if_pos (.inr (.inr (.inr (by simp [hb10]))))]
        rw [hn]
        refine ⟨?_, fun v c h => by simp at h⟩
        have hl1 : lineOf (b :: t') = b :: lineOf t' := by rw [lineOf, if_neg hb10]
        rw [hl1] at hlo
        rw [tailV]
        split
        · rename_i hsx
          rw [hlo] at hsx ⊢
          rcases List.eq_nil_or_concat (lineOf t') with e | ⟨q, z, e⟩
          · rw [e, suff_snoc] at hsx; simp [hb10] at hsx
          · rw [List.concat_eq_append] at e
            have e2 : d ++ b :: lineOf t' = (d ++ b :: q) ++ [z] := by rw [e]; simp
            rw [e2, suff_snoc] at hsx
            have hz : z = 10 := by simpa using hsx
            rw [e2, hz, trim_snoc, decL_bad _ b (by simp) hb]; rfl
        · rfl
theorem val_line (p bs : List UInt8) (h : (10 : UInt8) ∉ p) : valL p (lineOf bs) = (lineVL p bs).map (·.1) ∧ ∀ v c, lineVL p bs = some (v, c) → c = (lineOf bs).length := by
  by_cases hp : p.isPrefixOf bs = true
  · obtain ⟨r, rfl⟩ := List.isPrefixOf_iff_prefix.1 hp
    have hd : (p ++ r).drop p.length = r := by simp
    rw [lineVL, if_pos hp, hd]
    obtain ⟨h1, h2⟩ := tail_num r
    have hlo := lineOf_app p r h
    have hpp : Lib.hasPrefix (p ++ lineOf r) p = true := List.isPrefixOf_iff_prefix.2 ⟨_, rfl⟩
    have htp : Lib.trimPrefix (p ++ lineOf r) p = lineOf r := by rw [Lib.trimPrefix, if_pos hpp]; simp
    constructor
    · rw [valL, hlo, htp, hpp]
      rw [tailV] at h1
      simp only [true_and, Option.map_map]
      rw [h1]; rfl
    · intro v c hc
      cases hn : numV r with
      | none => rw [hn] at hc; simp at hc
      | some q =>
        rw [hn] at hc
        have := h2 q.1 q.2 hn
        obtain ⟨-, rfl⟩ := Prod.mk.inj (Option.some.inj hc)
        rw [hlo, List.length_append, this]; omega
  · rw [lineVL, if_neg hp]
    refine ⟨?_, fun v c h => by simp at h⟩
    rw [valL, if_neg]; rfl
    rintro ⟨h1, -⟩
    exact hp (List.isPrefixOf_iff_prefix.2 ((List.isPrefixOf_iff_prefix.1 h1).trans (lineOf_prefix bs)))
/-! ### All lines -/
def comb (u : List Nat) : Nat ⊕ List Nat → Nat ⊕ List Nat
  | .inl a => .inl a
  | .inr m => .inr (u ++ m)
theorem comb_nil (r : Nat ⊕ List Nat) : comb [] r = r := by cases r <;> rfl
theorem comb_comb (u v : List Nat) (r : Nat ⊕ List Nat) : comb u (comb v r) = comb (u ++ v) r := by cases r <;> simp [comb]
/-- n lines are still to come, at the offset a. -/
def runV : Nat → Nat → List UInt8 → Nat ⊕ List Nat
  | 0, a, bs => if bs = [] then .inr [] else .inl a
  | n + 1, a, bs => match lineVL (lblB (25 - n) ++ [32]) bs with
    | none => .inl a
    | some q => comb [q.1] (runV n (a + q.2) (bs.drop q.2))
/-- Parse: the offset of the first fault, or the 26 values. -/
def parseV (s : List UInt8) : Nat ⊕ List Nat := runV 26 0 s
theorem runV_none {k a : Nat} {bs : List UInt8} (hk : k < 26) (h : lineVL (lblB k ++ [32]) bs = none) : runV (26 - k) a bs = .inl a := by
  obtain ⟨n, hn⟩ : ∃ n, 26 - k = n + 1 := ⟨25 - k, by omega⟩
  have : 25 - n = k := by omega
  rw [hn, runV, this, h]
theorem runV_some {k a v c : Nat} {bs : List UInt8} (hk : k < 26) (h : lineVL (lblB k ++ [32]) bs = some (v, c)) : runV (26 - k) a bs = comb [v] (runV (26 - (k + 1)) (a + c) (bs.drop c)) := by
  obtain ⟨n, hn⟩ : ∃ n, 26 - k = n + 1 := ⟨25 - k, by omega⟩
  have : 25 - n = k := by omega
  have h2 : 26 - (k + 1) = n := by omega
  rw [hn, runV, this, h, h2]
theorem runV_len : ∀ (n a : Nat) (bs : List UInt8) (m : List Nat), runV n a bs = .inr m → m.length = n
  | 0, a, bs, m, h => by
    rw [runV] at h
    split at h
    · obtain rfl : [] = m := Sum.inr.inj h; rfl
    · cases h
  | n + 1, a, bs, m, h => by
    rw [runV] at h
    split at h
    · cases h
    · rename_i q _
      cases hr : runV n (a + q.2) (bs.drop q.2) with
      | inl b => rw [hr] at h; cases h
      | inr m' =>
        rw [hr] at h
        obtain rfl : [q.1] ++ m' = m := Sum.inr.inj h
        have := runV_len n _ _ m' hr
        simp; omega
theorem lblB_no10 (k : Nat) : (10 : UInt8) ∉ lblB k ++ [32] := by
  by_cases h : k < 26
  · have e : ∀ j : Fin 26, (10 : UInt8) ∉ lblB j.1 ++ [32] := by decide
    exact e ⟨k, h⟩
  · have h0 : k ≠ 0 := by omega
    have h1 : k ≠ 1 := by omega
    have h2 : nmB.length ≤ k - 2 := by show 24 ≤ _; omega
    simp [lblB, h0, h1, List.getElem?_eq_none h2]

/-! ### Numerals -/
theorem decF_snoc : ∀ (d : List UInt8) (n : Nat) (b : UInt8) (v : Nat), decF n d = some v → dig b → decF n (d ++ [b]) = some (10 * v + (b.toNat - 48))
  | [], n, b, v, h, hb => by
    obtain rfl : n = v := by simpa [decF] using h
    show decF n [b] = _
    rw [decF, if_pos (show 48 ≤ b.toNat ∧ b.toNat ≤ 57 from hb), decF]
  | c :: d, n, b, v, h, hb => by
    rw [decF] at h
    split at h
    · rename_i hc
      show decF n (c :: (d ++ [b])) = _
      rw [decF, if_pos hc]
      exact decF_snoc d _ b v h hb
    · cases h
theorem ofNat_toNat {n : Nat} (h : n < 256) : (UInt8.ofNat n).toNat = n := by simp; omega
theorem dig_ofNat {n : Nat} (h : n < 10) : dig (UInt8.ofNat (48 + n)) := by unfold dig; rw [ofNat_toNat (by omega)]; omega
theorem decDigits_facts (u : Nat) : (∀ b ∈ Lib.decDigits u, dig b) ∧ decF 0 (Lib.decDigits u) = some u ∧ Lib.decDigits u ≠ [] ∧ (1 < (Lib.decDigits u).length → (Lib.decDigits u).head? ≠ some 48) ∧ (0 < u → (Lib.decDigits u).head? ≠ some 48) ∧ ∀ k, u < 10 ^ (k + 1) → (Lib.decDigits u).length ≤ k + 1 := by
  induction u using Nat.strongRecOn with
  | ind u ih =>
    rw [Lib.decDigits]
    split
    · rename_i h
      refine ⟨?_, ?_, by simp, by simp, ?_, by simp⟩
      · intro b hb
        rw [List.mem_singleton.1 hb]
        exact dig_ofNat h
      · rw [decF, if_pos (show 48 ≤ _ ∧ _ ≤ 57 from dig_ofNat h), decF, ofNat_toNat (by omega)]; simp
      · intro h0 e
        have := congrArg UInt8.toNat (Option.some.inj e)
        rw [ofNat_toNat (by omega)] at this
        have e2 : (48 : UInt8).toNat = 48 := rfl
        omega
    · rename_i h
      obtain ⟨h1, h2, h3, h4, h5, h6⟩ := ih (u / 10) (by omega)
      have hd : dig (UInt8.ofNat (48 + u % 10)) := dig_ofNat (by omega)
      have hh : (Lib.decDigits (u / 10) ++ [UInt8.ofNat (48 + u % 10)]).head? = (Lib.decDigits (u / 10)).head? := by
        cases hx : Lib.decDigits (u / 10) with
        | nil => exact absurd hx h3
        | cons => rfl
      refine ⟨?_, ?_, by simp, fun _ => by rw [hh]; exact h5 (by omega), fun _ => by rw [hh]; exact h5 (by omega), ?_⟩
      · intro b hb
        rcases List.mem_append.1 hb with hb | hb
        · exact h1 b hb
        · rw [List.mem_singleton.1 hb]
          exact hd
      · rw [decF_snoc _ _ _ _ h2 hd, ofNat_toNat (by omega)]; congr 1; omega
      · intro k hk
        cases k with
        | zero => omega
        | succ k =>
          have := h6 k (by rw [Nat.pow_succ] at hk; omega)
          simp; omega
/-- A numeral without leading zeros is the numeral of its number. -/
theorem dec_unique : ∀ (n : Nat) (d : List UInt8), d.length = n → ∀ v, decF 0 d = some v → d ≠ [] → (1 < d.length → d.head? ≠ some 48) → d = Lib.decDigits v := by
  intro n
  induction n with
  | zero => intro d hl v _ h0; exact absurd (List.length_eq_zero_iff.1 hl) h0
  | succ n ih =>
    intro d hl v hv h0 hz
    have hdig : ∀ b ∈ d, dig b := fun b hb => Classical.byContradiction fun hn => by rw [decF_bad d 0 b hb hn] at hv; cases hv
    rcases List.eq_nil_or_concat d with e | ⟨q, z, e⟩
    · exact absurd e h0
    rw [List.concat_eq_append] at e
    subst e
    have hzd : dig z := hdig z (by simp)
    obtain ⟨v', hv'⟩ := decF_dig q 0 fun b hb => hdig b (by simp [hb])
    have hv2 := decF_snoc q 0 z v' hv' hzd
    rw [hv] at hv2
    have hzz : z = UInt8.ofNat (48 + (z.toNat - 48)) := by
      have h := hzd.1
      rw [show 48 + (z.toNat - 48) = z.toNat from by omega]; simp
    have h9 : z.toNat ≤ 57 := hzd.2
    have h8 : 48 ≤ z.toNat := hzd.1
    obtain rfl : v = 10 * v' + (z.toNat - 48) := Option.some.inj hv2
    by_cases hq : q = []
    · subst hq
      obtain rfl : 0 = v' := by simpa [decF] using hv'
      rw [Lib.decDigits, dif_pos (by omega)]
      rw [show 48 + (10 * 0 + (z.toNat - 48)) = 48 + (z.toNat - 48) from by omega, ← hzz]; rfl
    · have hlq : 0 < q.length := List.length_pos_iff.2 hq
      have hhead : (q ++ [z]).head? = q.head? := by cases q with | nil => exact absurd rfl hq | cons => rfl
      have hz1 := hz (by simp; omega)
      rw [hhead] at hz1
      have e := ih q (by simpa using hl) v' hv' hq fun _ => hz1
      have hvp : 0 < v' := by
        rcases Nat.eq_zero_or_pos v' with h | h
        · subst h
          exact absurd (by rw [e, Lib.decDigits_one (by decide)]; rfl) hz1
        · exact h
      rw [Lib.decDigits, dif_neg (by omega), show (10 * v' + (z.toNat - 48)) / 10 = v' from by omega, show (10 * v' + (z.toNat - 48)) % 10 = z.toNat - 48 from by omega, ← hzz, ← e]

/-! ### The text of a table, read back -/
theorem numV_dec (u : Nat) (t : List UInt8) (h : u < 1000000000) : numV (Lib.decDigits u ++ 10 :: t) = some (u, (Lib.decDigits u).length) := by
  obtain ⟨h1, h2, h3, h4, -, h6⟩ := decDigits_facts u
  have hl := h6 8 h
  have hs := scan_digs _ (10 :: t) 10 0 u h1 (by omega) (.inr (.inr ⟨10, t, rfl, by decide⟩)) h2
  have hp := List.length_pos_iff.2 h3
  rw [numV, hs, if_neg]
  rintro (h | h | ⟨h, h'⟩ | h)
  · simp only at h; omega
  · simp only at h; omega
  · refine h4 h ?_
    rw [← h']
    cases hx : Lib.decDigits u with
    | nil => exact absurd hx h3
    | cons => rfl
  · simp at h
theorem numV_back (r : List UInt8) (v c : Nat) (h : numV r = some (v, c)) : r.take (c + 1) = Lib.decDigits v ++ [10] := by
  obtain ⟨d, t, rfl, hd, ht⟩ := span r
  obtain ⟨v1, hv⟩ := decF_dig d 0 hd
  by_cases h9 : 9 < d.length
  · have hs2 : (scan 10 0 (d ++ t)).2 = 10 := by
      have e : d ++ t = d.take 10 ++ (d.drop 10 ++ t) := by rw [← List.append_assoc, List.take_append_drop]
      obtain ⟨v', hv'⟩ := decF_dig (d.take 10) 0 fun b hb => hd b (List.mem_of_mem_take hb)
      have hl : (d.take 10).length = 10 := by rw [List.length_take]; omega
      rw [e, scan_digs _ _ 10 0 v' (fun b hb => hd b (List.mem_of_mem_take hb)) (by omega) (.inl hl) hv']
      exact hl
    rw [numV, if_pos (.inr (.inl (by omega)))] at h; cases h
  · have hs := scan_digs d t 10 0 v1 hd (by omega) (.inr ht) hv
    rw [numV, hs] at h
    simp only at h
    split at h
    · cases h
    · rename_i hc
      obtain ⟨rfl, rfl⟩ := Prod.mk.inj (Option.some.inj h)
      have c1 : ¬ d.length < 1 := fun hh => hc (.inl hh)
      have c3 : ¬ (1 < d.length ∧ (d ++ t).head? = some 48) := fun hh => hc (.inr (.inr (.inl hh)))
      have c4 : (d ++ t)[d.length]? = some 10 := Classical.byContradiction fun hh => hc (.inr (.inr (.inr hh)))
      have hd0 : d ≠ [] := fun e => c1 (by rw [e]; simp)
      have hh : (d ++ t).head? = d.head? := by cases d with | nil => exact absurd rfl hd0 | cons => rfl
      rw [hh] at c3
      have e := dec_unique _ d rfl v1 hv hd0 fun h1 h2 => c3 ⟨h1, h2⟩
      rw [List.getElem?_append_right (Nat.le_refl _), Nat.sub_self] at c4
      cases t with
      | nil => simp at c4
      | cons b t' =>
        obtain rfl : b = 10 := by simpa using c4
        rw [← e, List.take_append, List.take_of_length_le (by omega), show d.length + 1 - d.length = 1 from by omega]; rfl
/-- The last n lines. -/
def textFrom : Nat → List Int → List UInt8
  | 0, _ => []
  | n + 1, m => lineB (25 - n) (m.getD (25 - n) 0) ++ textFrom n m
theorem text_split (m : List Int) : ∀ k, k ≤ 26 → textUp k m ++ textFrom (26 - k) m = textB m
  | 0, _ => by
    show [] ++ textFrom 26 m = textB m
    simp [textFrom, textB, textUp]
  | k + 1, h => by
    rw [← text_split m k (by omega)]
    obtain ⟨n, hn⟩ : ∃ n, 26 - k = n + 1 := ⟨25 - k, by omega⟩
    have h2 : 26 - (k + 1) = n := by omega
    have h3 : 25 - n = k := by omega
    rw [hn, h2, textFrom, h3, textUp, List.append_assoc]
theorem textFrom_all (m : List Int) : textFrom 26 m = textB m := by have := text_split m 0 (by omega); simpa [textUp] using this
theorem line_read (k u : Nat) (t : List UInt8) (h : u < 1000000000) : lineVL (lblB k ++ [32]) (lineB k (u : Int) ++ t) = some (u, (lineB k (u : Int)).length) := by
  have e : lineB k (u : Int) ++ t = (lblB k ++ [32]) ++ (Lib.decDigits u ++ 10 :: t) := by rw [lineB, Lib.itoa_nonneg]; simp
  have hp : (lblB k ++ [32]).isPrefixOf ((lblB k ++ [32]) ++ (Lib.decDigits u ++ 10 :: t)) = true := List.isPrefixOf_iff_prefix.2 ⟨_, rfl⟩
  rw [e, lineVL, if_pos hp, List.drop_append_of_le_length (Nat.le_refl _), List.drop_length, List.nil_append, numV_dec u t h, lineB, Lib.itoa_nonneg]
  simp; omega
theorem parse_from (m : List Int) (hl : m.length = 26) (hm : ∀ i, 0 ≤ m.getD i 0 ∧ m.getD i 0 ≤ 1000) : ∀ n a, n ≤ 26 → runV n a (textFrom n m) = .inr ((m.drop (26 - n)).map Int.toNat)
  | 0, a, _ => by rw [textFrom, runV, if_pos rfl]; simp [← hl]
  | n + 1, a, h => by
    obtain ⟨u, hu⟩ : ∃ u : Nat, m.getD (25 - n) 0 = (u : Int) := ⟨(m.getD (25 - n) 0).toNat, by have := (hm (25 - n)).1; omega⟩
    have hx := (hm (25 - n)).2
    have hr := runV_some (k := 25 - n) (a := a) (by omega) (line_read (25 - n) u (textFrom n m) (by omega))
    rw [show 26 - (25 - n) = n + 1 from by omega, show 26 - (25 - n + 1) = n from by omega, List.drop_append_of_le_length (Nat.le_refl _), List.drop_length, List.nil_append, parse_from m hl hm n _ (by omega)] at hr
    rw [textFrom, hu, hr, show 26 - (n + 1) = 25 - n from by omega]
    have hk : 25 - n < m.length := by omega
    rw [List.drop_eq_getElem_cons hk, show 25 - n + 1 = 26 - n from by omega]
    have hg : m[25 - n] = (u : Int) := by rw [← hu, List.getD_eq_getElem?_getD, List.getElem?_eq_getElem hk]; rfl
    rw [hg]; rfl
theorem parse_text (m : List Int) (hl : m.length = 26) (hm : ∀ i, 0 ≤ m.getD i 0 ∧ m.getD i 0 ≤ 1000) : parseV (textB m) = .inr (m.map Int.toNat) := by
  rw [parseV, ← textFrom_all, parse_from m hl hm 26 0 (Nat.le_refl _)]; simp
theorem line_back (k : Nat) (bs : List UInt8) (v c : Nat) (h : lineVL (lblB k ++ [32]) bs = some (v, c)) : lineB k (v : Int) ++ bs.drop c = bs := by
  rw [lineVL] at h
  split at h
  · rename_i hp
    obtain ⟨r, hr⟩ := List.isPrefixOf_iff_prefix.1 hp
    have e : lineB k (v : Int) = (lblB k ++ [32]) ++ (Lib.decDigits v ++ [10]) := by rw [lineB, Lib.itoa_nonneg]; simp
    rw [e]
    generalize lblB k ++ [32] = p at hr h
    subst hr
    rw [List.drop_append_of_le_length (Nat.le_refl _), List.drop_length, List.nil_append] at h
    cases hn : numV r with
    | none => rw [hn] at h; simp at h
    | some q =>
      rw [hn] at h
      obtain ⟨rfl, rfl⟩ := Prod.mk.inj (Option.some.inj h)
      have := numV_back r q.1 q.2 hn
      rw [← this, List.append_assoc, List.drop_append, List.drop_eq_nil_of_le (by omega), List.nil_append, show p.length + q.2 + 1 - p.length = q.2 + 1 from by omega, List.take_append_drop]
  · cases h
theorem from_back : ∀ (n a : Nat) (bs : List UInt8) (m : List Nat) (M : List Int), n ≤ 26 → runV n a bs = .inr m → M.drop (26 - n) = m.map Int.ofNat → textFrom n M = bs
  | 0, a, bs, m, M, _, h, _ => by
    rw [runV] at h
    split at h
    · rename_i e; rw [e]; rfl
    · cases h
  | n + 1, a, bs, m, M, hn, h, hM => by
    rw [runV] at h
    split at h
    · cases h
    · rename_i q hq
      cases hr : runV n (a + q.2) (bs.drop q.2) with
      | inl b => rw [hr] at h; cases h
      | inr m' =>
        rw [hr] at h
        obtain rfl : [q.1] ++ m' = m := Sum.inr.inj h
        rw [show 26 - (n + 1) = 25 - n from by omega] at hM
        have hd : M.drop (26 - n) = m'.map Int.ofNat := by
          have := congrArg List.tail hM
          rw [List.tail_drop, show 25 - n + 1 = 26 - n from by omega] at this
          rw [this]; rfl
        have hg : M.getD (25 - n) 0 = (q.1 : Int) := by
          have := congrArg List.head? hM
          rw [List.head?_drop] at this
          rw [List.getD_eq_getElem?_getD, this]; rfl
        rw [textFrom, hg, from_back n _ _ m' M (by omega) hr hd]
        exact line_back _ _ _ _ hq
theorem text_parse (s : List UInt8) (m : List Nat) (h : parseV s = .inr m) : textB (m.map Int.ofNat) = s := by
  rw [← textFrom_all]
  exact from_back 26 0 s m _ (Nat.le_refl _) h (by simp)

/-! ### The offsets that the lines have -/
def lenAt (bs : List UInt8) (a : Nat) : Nat := (lineOf (bs.drop a)).length
/-- The lines from the offset a to the offset e begin at these offsets. -/
def Chain (bs : List UInt8) : Nat → List Nat → Nat → Prop
  | a, [], e => a = e
  | a, x :: r, e => x = a ∧ a < bs.length ∧ Chain bs (a + lenAt bs a) r e
theorem Chain.snoc {bs : List UInt8} : ∀ {p : List Nat} {a e : Nat}, Chain bs a p e → e < bs.length → Chain bs a (p ++ [e]) (e + lenAt bs e)
  | [], a, e, h, h2 => by obtain rfl : a = e := h; exact ⟨rfl, h2, rfl⟩
  | x :: r, a, e, ⟨h1, h2, h3⟩, h4 => ⟨h1, h2, h3.snoc h4⟩
theorem Chain.unsnoc {bs : List UInt8} : ∀ {p : List Nat} {a x e : Nat}, Chain bs a (p ++ [x]) e → Chain bs a p x ∧ x < bs.length ∧ e = x + lenAt bs x
  | [], a, x, e, h => by obtain ⟨rfl, h2, h3⟩ := h; exact ⟨rfl, h2, Eq.symm h3⟩
  | y :: r, a, x, e, ⟨h1, h2, h3⟩ => by have := Chain.unsnoc h3; exact ⟨⟨h1, h2, this.1⟩, this.2⟩
theorem Chain.long {bs : List UInt8} : ∀ {p : List Nat} {a e : Nat}, Chain bs a p e → a + p.length ≤ e
  | [], a, e, h => by obtain rfl : a = e := h; simp
  | x :: r, a, e, ⟨h1, h2, h3⟩ => by
    have := h3.long
    have h4 : 0 < lenAt bs a := lineOf_pos (by intro e; have := congrArg List.length e; rw [List.length_drop] at this; simp at this; omega)
    simp only [List.length_cons]; omega
theorem Chain.top {bs : List UInt8} : ∀ {p : List Nat} {a e : Nat}, Chain bs a p e → a ≤ bs.length → e ≤ bs.length
  | [], a, e, h, h1 => by obtain rfl : a = e := h; exact h1
  | x :: r, a, e, ⟨h1, h2, h3⟩, _ => h3.top (by have := lineOf_len (bs.drop a); rw [List.length_drop] at this; unfold lenAt; omega)
/-- What the lines at these offsets say. -/
def Good (bs : List UInt8) (p vs : List Nat) : Prop := vs.length = p.length ∧ ∀ i, i < p.length → valL (lblB i ++ [32]) (lineOf (bs.drop (p.getD i 0))) = some (vs.getD i 0)
theorem Good.nil (bs : List UInt8) : Good bs [] [] := ⟨rfl, fun i h => by simp at h⟩
theorem getD_left {p : List Nat} {x i : Nat} (h : i < p.length) : (p ++ [x]).getD i 0 = p.getD i 0 := by simp [List.getD_eq_getElem?_getD, List.getElem?_append_left h]
theorem getD_last {p : List Nat} {x i : Nat} (h : i = p.length) : (p ++ [x]).getD i 0 = x := by subst h; simp [List.getD_eq_getElem?_getD]
theorem Good.snoc {bs : List UInt8} {p vs : List Nat} {x v : Nat} (h : Good bs p vs) (hv : valL (lblB p.length ++ [32]) (lineOf (bs.drop x)) = some v) : Good bs (p ++ [x]) (vs ++ [v]) := by
  refine ⟨by simp [h.1], fun i hi => ?_⟩
  by_cases hip : i < p.length
  · rw [getD_left hip, getD_left (by rw [h.1]; exact hip)]; exact h.2 i hip
  · have : i = p.length := by simp at hi; omega
    rw [getD_last this, getD_last (by rw [h.1]; exact this), this]; exact hv
theorem Good.unsnoc {bs : List UInt8} {p vs : List Nat} {x : Nat} (h : Good bs (p ++ [x]) vs) : ∃ u v, vs = u ++ [v] ∧ Good bs p u ∧ valL (lblB p.length ++ [32]) (lineOf (bs.drop x)) = some v := by
  rcases List.eq_nil_or_concat vs with e | ⟨u, v, e⟩
  · have := h.1; rw [e] at this; simp at this
  · rw [List.concat_eq_append] at e
    subst e
    have hl : u.length = p.length := by have := h.1; simpa using this
    refine ⟨u, v, rfl, ⟨hl, fun i hi => ?_⟩, ?_⟩
    · have := h.2 i (by simp; omega)
      rw [getD_left hi, getD_left (by omega)] at this; exact this
    · have := h.2 p.length (by simp)
      rw [getD_last rfl, getD_last (by omega)] at this; exact this
theorem val_some {k v : Nat} {bs : List UInt8} (h : valL (lblB k ++ [32]) (lineOf bs) = some v) : lineVL (lblB k ++ [32]) bs = some (v, (lineOf bs).length) := by
  obtain ⟨h1, h2⟩ := val_line _ bs (lblB_no10 k)
  rw [h] at h1
  cases hq : lineVL (lblB k ++ [32]) bs with
  | none => rw [hq] at h1; cases h1
  | some q =>
    rw [hq] at h1
    have e1 : v = q.1 := Option.some.inj h1
    have e2 := h2 q.1 q.2 hq
    rw [e1, ← e2]
theorem val_none {k : Nat} {bs : List UInt8} (h : valL (lblB k ++ [32]) (lineOf bs) = none) : lineVL (lblB k ++ [32]) bs = none := by
  obtain ⟨h1, h2⟩ := val_line _ bs (lblB_no10 k)
  rw [h] at h1
  cases hq : lineVL (lblB k ++ [32]) bs with
  | none => rfl
  | some q => rw [hq] at h1; cases h1
theorem run_good (bs : List UInt8) : ∀ (n : Nat) (p vs : List Nat) (e : Nat), p.length = n → n ≤ 26 → Chain bs 0 p e → Good bs p vs → parseV bs = comb vs (runV (26 - n) e (bs.drop e)) := by
  intro n
  induction n with
  | zero =>
    intro p vs e hp _ hc hg
    obtain rfl := List.length_eq_zero_iff.1 hp
    obtain rfl : 0 = e := hc
    have hv : vs = [] := List.length_eq_zero_iff.1 hg.1
    rw [hv, comb_nil, List.drop_zero, parseV]
  | succ n ih =>
    intro p vs e hp hn hc hg
    rcases List.eq_nil_or_concat p with e0 | ⟨q, x, e0⟩
    · rw [e0] at hp; simp at hp
    · rw [List.concat_eq_append] at e0
      subst e0
      have hq : q.length = n := by simpa using hp
      obtain ⟨h1, h2, rfl⟩ := hc.unsnoc
      obtain ⟨u, v, rfl, hg', hv⟩ := hg.unsnoc
      rw [ih q u x hq (by omega) h1 hg']
      rw [hq] at hv
      rw [runV_some (by omega) (val_some hv), comb_comb, List.drop_drop]
      rfl
theorem parse_fault {bs : List UInt8} {p vs : List Nat} {x e : Nat} (hc : Chain bs 0 (p ++ [x]) e) (hg : Good bs p vs) (hp : p.length ≤ 26) (hx : p.length = 26 ∨ valL (lblB p.length ++ [32]) (lineOf (bs.drop x)) = none) : parseV bs = .inl x := by
  obtain ⟨h1, h2, -⟩ := hc.unsnoc
  rw [run_good bs _ p vs x rfl hp h1 hg]
  by_cases h26 : p.length = 26
  · rw [h26]
    show comb vs (runV 0 x _) = _
    rw [runV, if_neg]; rfl
    intro e; have := congrArg List.length e; rw [List.length_drop] at this; simp at this; omega
  · rw [runV_none (by omega) (val_none (hx.resolve_left h26))]; rfl
theorem parse_short {bs : List UInt8} {p vs : List Nat} (hc : Chain bs 0 p bs.length) (hg : Good bs p vs) (hp : p.length < 26) : parseV bs = .inl bs.length := by
  rw [run_good bs _ p vs _ rfl (by omega) hc hg, List.drop_length, runV_none hp]; rfl
  rw [lineVL, if_neg]
  intro h
  have := (List.isPrefixOf_iff_prefix.1 h).length_le
  simp at this
theorem parse_done {bs : List UInt8} {p vs : List Nat} (hc : Chain bs 0 p bs.length) (hg : Good bs p vs) (hp : p.length = 26) : parseV bs = .inr vs := by
  rw [run_good bs _ p vs _ rfl (by omega) hc hg, List.drop_length, hp, runV, if_pos rfl]
  show Sum.inr (vs ++ []) = _
  rw [List.append_nil]
theorem decV_mk (d : List UInt8) : decV ⟨d.toArray⟩ = decL d := by simp [decV, decL, ByteArray.size]
theorem valV_mk (k : Nat) (l : List UInt8) : valV ⟨l.toArray⟩ (lbl k) = valL (lblB k ++ [32]) l := by
  have e : (lbl k ++ ⟨#[32]⟩ : ByteArray).data.toList = lblB k ++ [32] := by simp [lbl, ByteArray.data_append]
  rw [valV, valL, decV_mk, restL, e]
end Go.Proofs.YtnnmmkimdknbgaaDoor
