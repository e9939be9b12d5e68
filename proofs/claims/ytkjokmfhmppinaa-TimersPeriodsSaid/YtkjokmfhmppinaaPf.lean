/- Timers: one timer with an interval: plain, and Expire of it. -/
import Derived.Test.YtkjokmfhmppinaaPd
namespace Go.Proofs.Ytkjokmfhmppinaa
open Go.RowKit Go.Maps
set_option linter.unusedVariables false

/-- The periods that have begun at L. -/
def want (F I L : Int) : Int := if F ≤ L then (L - F) / I + 1 else 0
theorem want_nn {F I L : Int} (hI : 0 < I) : 0 ≤ want F I L := by
  unfold want
  split
  · have := Int.ediv_nonneg (a := L - F) (b := I) (by omega) (by omega); omega
  · exact Int.le_refl _
/-- Behind an expiry at L: n periods are counted, and First is f. -/
def St (F I L f n : Int) : Prop := n = want F I L ∧ (f = F + n * I ∧ f ≤ MT ∨ f = 0 ∧ MT < F + n * I)
theorem st_quiet {F I L f n now : Int} (h : St F I L f n) (hI : 0 < I) (hL : L ≤ now) (hm : now ≤ MT) (hq : f = 0 ∧ 0 < F ∨ now < f) : St F I now f n := by
  refine ⟨?_, h.2⟩
  obtain ⟨h1, h2⟩ := h
  have hn0 : 0 ≤ n := h1 ▸ want_nn hI
  have hnI : 0 ≤ n * I := Int.mul_nonneg hn0 (by omega)
  have hlt : now < F + n * I := by
    rcases h2 with ⟨h3, h4⟩ | ⟨h3, h4⟩
    · rcases hq with ⟨h5, h6⟩ | h5 <;> omega
    · omega
  unfold want at h1 ⊢
  by_cases hF : F ≤ now
  · rw [if_pos hF]
    have u : (now - F) / I < n := Int.ediv_lt_of_lt_mul hI (by omega)
    by_cases hF2 : F ≤ L
    · rw [if_pos hF2] at h1
      have v : (L - F) / I ≤ (now - F) / I := Int.ediv_le_ediv hI (by omega)
      omega
    · rw [if_neg hF2] at h1
      subst h1
      omega
  · rw [if_neg hF]
    rw [if_neg (by omega)] at h1
    exact h1
theorem st_fire {F I L f n now : Int} (h : St F I L f n) (hI : 0 < I) (hf : f ≠ 0) (hn : f ≤ now) (hL : L ≤ now) : n + 1 + ovr f I now = want F I now ∧ St F I now (nxt f I now) (n + 1 + ovr f I now) := by
  obtain ⟨h1, h2⟩ := h
  have hn0 : 0 ≤ n := h1 ▸ want_nn hI
  have hnI : 0 ≤ n * I := Int.mul_nonneg hn0 (by omega)
  have hfe : f = F + n * I := by rcases h2 with h | h; exact h.1; exact (hf h.1).elim
  have ho : ovr f I now = (now - F) / I - n := by
    unfold ovr
    rw [if_neg (by omega), hfe, show now - (F + n * I) = (now - F) + (-n) * I by rw [Int.neg_mul]; omega, Int.add_mul_ediv_right _ _ (by omega)]
    omega
  have hw : n + 1 + ovr f I now = want F I now := by
    unfold want
    rw [if_pos (by omega), ho]; omega
  refine ⟨hw, hw, ?_⟩
  have hx : f + (ovr f I now + 1) * I = F + (n + 1 + ovr f I now) * I := by
    rw [hfe, show n + 1 + ovr (F + n * I) I now = n + (ovr (F + n * I) I now + 1) by omega, Int.add_mul n]; omega
  unfold nxt
  rw [if_neg (by omega), hx]
  split
  · rename_i hg; exact .inr ⟨rfl, hg⟩
  · rename_i hg; exact .inl ⟨rfl, by omega⟩
/-- The one timer. -/
def pl (f I : Int) : TS := [(0, ⟨0, 1, 1, 10, 0, 0, f, I, 0⟩)]
theorem pl_get (f I : Int) : get (pl f I) 0 = some ⟨0, 1, 1, 10, 0, 0, f, I, 0⟩ := rfl
theorem pl_spi {f I : Int} (hf : isT f = true) (hI : isT I = true) : SpI (pl f I) := fun p hp => by
  obtain rfl := List.mem_singleton.1 hp
  show (isT f && isT I && isT 0) = true
  rw [hf, hI]; rfl
theorem pl_nx (f I : Int) : nx (pl f I) = if f = 0 then none else some f := by
  show (if f = 0 then none else some (f + 0)) = _
  rw [Int.add_zero]
theorem pl_fa {f I now : Int} (h0 : f ≠ 0) (h1 : f ≤ now) : FA (pl f I) now (pl f I) := by
  refine ⟨List.pairwise_singleton _ _, fun x t => ?_⟩
  constructor
  · intro hm
    have := List.mem_singleton.1 hm
    cases this
    exact ⟨rfl, h0, h1⟩
  · rintro ⟨hg, _⟩
    exact get_mem hg
theorem pl_fire (f I now : Int) : fireL now (pl f I) (pl f I) = pl (nxt f I now) I := by
  show ins 0 _ (pl f I) = _
  rfl
/-- Expire of one timer, at any time. -/
theorem per_expire {W : World} {B b : Nat} {f I c : Int} (h : TQ W B b (pl f I) c) (hf : isT f = true) (hI : isT I = true) (now : Int) : Calls Try.prog 23 #[.pointer (some ⟨B, 0, none⟩), .int .i64 now] W fun e w' =>
    ∃ a k cap z, e = .returned (.tuple #[.slice a k cap, .int .i64 z]) ∧ Fr (fun k => k = B ∨ k = b) W w' ∧
      (z ≠ 0 ∧ TQ w' B b (pl f I) c ∨
       z = 0 ∧ isT now = true ∧ c ≤ now ∧ k = 0 ∧ (f = 0 ∨ now < f) ∧ TQ w' B b (pl f I) now ∨
       z = 0 ∧ isT now = true ∧ c ≤ now ∧ k = 1 ∧ f ≠ 0 ∧ f ≤ now ∧ (∃ g, a = some ⟨g, 0, none⟩ ∧ ∀ w2, Fr No w' w2 → w2.rangeAt g 0 [.int .i64 0, .int .i64 1, .int .i64 1, .int .i64 10, .int .i64 0, .int .i64 0, .int .i64 (ovr f I now)]) ∧ TQ w' B b (pl (nxt f I now) I) now) := by
  by_cases hn : isT now = true
  · by_cases hc : c ≤ now
    · by_cases hq : f = 0 ∨ now < f
      · have hq' : nx (pl f I) = none ∨ now < nxV (pl f I) := by
          unfold nxV
          rw [pl_nx]
          by_cases h0 : f = 0
          · rw [if_pos h0]; exact .inl rfl
          · rw [if_neg h0]; exact .inr (hq.resolve_left h0)
        exact (expire_quiet h (pl_spi hf hI) now hn hc hq').mono fun e w' ⟨he, q, fr⟩ => ⟨none, 0, 0, 0, he, fr.mono fun k _ e => .inl e, .inr (.inl ⟨rfl, hn, hc, rfl, hq, q⟩)⟩
      · have h0 : f ≠ 0 := fun e => hq (.inl e)
        have h1 : f ≤ now := by have : ¬ now < f := fun e => hq (.inr e)
                                omega
        have hs : (nx (pl f I)).isSome = true := by rw [pl_nx, if_neg h0]; rfl
        have hv : nxV (pl f I) ≤ now := by unfold nxV; rw [pl_nx, if_neg h0]; exact h1
        refine (expire_fire h (pl_spi hf hI) now hn hc hs hv (fun n hn => sortOK_small (by simp [pl] at hn; omega))).mono fun e w' ⟨v, fs, he, hfa, q, ho, fr⟩ => ?_
        obtain rfl := fa_unique hfa (pl_fa h0 h1)
        rw [pl_fire] at q
        obtain ⟨g, cap, rfl⟩ := own_slice (n := 0) ho
        refine ⟨some ⟨g, 0, none⟩, 1, cap, 0, he, fr, .inr (.inr ⟨rfl, hn, hc, rfl, h0, h1, ⟨g, rfl, fun w2 f2 => ?_⟩, q⟩)⟩
        have ho2 := own_fr2 ho f2 (fun _ _ => id)
        intro j u hj
        rw [Nat.zero_add]
        exact own_cells ho2 hj
    · exact (expire_order h now hn (by omega)).mono fun e w' ⟨he, fr⟩ => ⟨none, 0, 0, 30, he, fr.any, .inl ⟨by decide, h.no fr⟩⟩
  · exact (expire_range h now (by simpa using hn)).mono fun e w' ⟨he, fr⟩ => ⟨none, 0, 0, 34, he, fr.any, .inl ⟨by decide, h.no fr⟩⟩
/-- Times that came in. -/
def TimesIn (w : World) (a : Option Addr) (ts : List Int) : Prop := ts = [] ∨ ∃ b off, a = some ⟨b, off, none⟩ ∧ b < w.heap.size ∧ ∀ i z, ts[i]? = some z → w.cell? ⟨b, off + i, none⟩ = some (.int .i64 z)
theorem TimesIn.get {w : World} {a : Option Addr} {ts : List Int} {i : Nat} (h : TimesIn w a ts) (hi : i < ts.length) : ∃ b off z, a = some ⟨b, off, none⟩ ∧ ts[i]? = some z ∧ ∀ w2, Fr No w w2 → w2.cell? ⟨b, off + i, none⟩ = some (.int .i64 z) := by
  have hx : ts[i]? = some ts[i] := List.getElem?_eq_getElem hi
  rcases h with h' | ⟨b, off, rfl, hlt, h'⟩
  · rw [h'] at hi; cases hi
  · exact ⟨b, off, _, rfl, hx, fun w2 f => (World.cell?_of_block (f.block b hlt id)).trans (h' i _ hx)⟩
end Go.Proofs.Ytkjokmfhmppinaa
