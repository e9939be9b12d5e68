/- Check, budgetOf. -/
import Derived.Test.YtjaaljcdaamcjaaGreatMh
namespace Go.Proofs.YtjaaljcdaamcjaaGreat.Pa
open Go.RowKit
set_option linter.unusedVariables false

def pct (x : Int) : Bool := decide (0 ≤ x) && decide (x ≤ 100)
theorem pct_iff (x : Int) : pct x = true ↔ 0 ≤ x ∧ x ≤ 100 := by simp [pct]
theorem pct_any (x : Int) (W : World) : Calls Tryz.prog 120 #[.int .i64 x] W fun e w' => e = .returned (.bool (pct x)) ∧ W = w' := by
  by_cases hp : 0 ≤ x
  · have HV : Hid (pct x = decide (x ≤ 100)) := by show _ = _; simp [pct, hp]
    go_enter Tryz.func120, Tryz.ntmps120
    go_wp2
    go_ret
    exact ⟨by rw [HV.out] <;> rfl, rfl⟩
  · have HV : Hid (pct x = false) := by show _ = _; simp [pct, hp]
    have h2 : decide (0 ≤ x) = false := by simpa using hp
    go_enter Tryz.func120, Tryz.ntmps120
    go_wp2
    go_ret
    exact ⟨by rw [HV.out] <;> rfl, rfl⟩
def budI (win pr x : Int) : Int := x * win * pr / 100
theorem bud_any (W : World) (win pr x : Int) (a : Option Addr) (n cap : Nat) (h1 : 1 ≤ win ∧ win ≤ 1000) (h2 : 1 ≤ pr ∧ pr ≤ 8) (h3 : 0 ≤ x ∧ x ≤ 100) : Calls Tryz.prog 77 #[.agg #[.int .i64 win, .int .i64 pr, .slice a n cap], .int .i64 x] W fun e w' => e = .returned (.int .i64 (budI win pr x)) ∧ Fr (fun _ => False) W w' := by
  have m1 : 0 ≤ x * win := Int.mul_nonneg h3.1 (by omega)
  have m2 : x * win ≤ 100000 := by
    calc x * win ≤ 100 * win := Int.mul_le_mul_of_nonneg_right h3.2 (by omega)
      _ ≤ 100 * 1000 := Int.mul_le_mul_of_nonneg_left h1.2 (by omega)
      _ = 100000 := by decide
  have m3 : 0 ≤ x * win * pr := Int.mul_nonneg m1 (by omega)
  have m4 : x * win * pr ≤ 800000 := by
    calc x * win * pr ≤ 100000 * pr := Int.mul_le_mul_of_nonneg_right m2 (by omega)
      _ ≤ 100000 * 8 := Int.mul_le_mul_of_nonneg_left h2.2 (by omega)
      _ = 800000 := by decide
  have HV : Hid (budI win pr x = x * win * pr / 100) := rfl
  generalize budI win pr x = v at HV ⊢
  clear h1 h2 h3
  go_enter Tryz.func77, Tryz.ntmps77
  go_wp2
  go_ret
  exact ⟨by rw [HV.out] <;> rfl, Fr.alloc _ _ _⟩
theorem budI_bound {win pr x : Int} (h1 : 1 ≤ win ∧ win ≤ 1000) (h2 : 1 ≤ pr ∧ pr ≤ 8) (h3 : 0 ≤ x ∧ x ≤ 100) : 0 ≤ budI win pr x ∧ budI win pr x ≤ 8000 := by
  have m1 : 0 ≤ x * win := Int.mul_nonneg h3.1 (by omega)
  have m2 : x * win ≤ 100000 := by
    calc x * win ≤ 100 * win := Int.mul_le_mul_of_nonneg_right h3.2 (by omega)
      _ ≤ 100 * 1000 := Int.mul_le_mul_of_nonneg_left h1.2 (by omega)
      _ = 100000 := by decide
  have m3 : 0 ≤ x * win * pr := Int.mul_nonneg m1 (by omega)
  have m4 : x * win * pr ≤ 800000 := by
    calc x * win * pr ≤ 100000 * pr := Int.mul_le_mul_of_nonneg_right m2 (by omega)
      _ ≤ 100000 * 8 := Int.mul_le_mul_of_nonneg_left h2.2 (by omega)
      _ = 800000 := by decide
  unfold budI
  omega

/-! Check -/
/-- How the parts of a configuration lie. -/
def PartsAt (w : World) (b off : Nat) (P : List (Int × Int)) : Prop := b < w.heap.size ∧ ∀ i x, P[i]? = some x → w.cell? ⟨b, off + i * 2, none⟩ = some (.int .i64 x.1) ∧ w.cell? ⟨b, off + i * 2 + 1, none⟩ = some (.int .i64 x.2)
def PartsIn (w : World) (a : Option Addr) (P : List (Int × Int)) : Prop := P = [] ∨ ∃ b off, a = some ⟨b, off, none⟩ ∧ PartsAt w b off P
theorem PartsIn.fr {w w' : World} {a : Option Addr} {P : List (Int × Int)} {S : Nat → Prop} (h : PartsIn w a P) (hf : Fr S w w') (hS : ∀ b off, a = some ⟨b, off, none⟩ → ¬ S b) : PartsIn w' a P := by
  rcases h with h | ⟨b, off, rfl, h1, h2⟩
  · exact .inl h
  · refine .inr ⟨b, off, rfl, Nat.lt_of_lt_of_le h1 hf.size, fun i x hx => ?_⟩
    have hb := hf.block b h1 (hS b off rfl)
    obtain ⟨e1, e2⟩ := h2 i x hx
    exact ⟨(World.cell?_of_block hb).trans e1, (World.cell?_of_block hb).trans e2⟩
theorem PartsIn.get {w : World} {a : Option Addr} {P : List (Int × Int)} {i : Nat} (h : PartsIn w a P) (hi : i < P.length) : ∃ b off x, a = some ⟨b, off, none⟩ ∧ P[i]? = some x ∧ w.cell? ⟨b, off + i * 2, none⟩ = some (.int .i64 x.1) ∧ w.cell? ⟨b, off + i * 2 + 1, none⟩ = some (.int .i64 x.2) := by
  have hx : P[i]? = some P[i] := List.getElem?_eq_getElem hi
  rcases h with h | ⟨b, off, rfl, _, h⟩
  · rw [h] at hi; cases hi
  · exact ⟨b, off, _, rfl, hx, h i _ hx⟩
def chkParts : List (Int × Int) → Int → Int
  | [], s => if s = 100 then 0 else 14
  | x :: r, s => if pct x.1 = true ∧ pct x.2 = true then chkParts r (s + x.1) else 34
/-- What Check answers. -/
def cfgV (win pr : Int) (P : List (Int × Int)) : Int := if win < 1 ∨ 1000 < win ∨ pr < 1 ∨ 8 < pr then 34 else if P.length = 0 then 9 else if 8 < P.length then 18 else chkParts P 0
set_option maxRecDepth 100000 in
set_option maxHeartbeats 1000000 in
theorem pcheck_any (W : World) (win pr : Int) (a : Option Addr) (cap : Nat) (P : List (Int × Int)) (hP : PartsIn W a P) : Calls Tryz.prog 76 #[.agg #[.int .i64 win, .int .i64 pr, .slice a P.length cap]] W fun e w' => e = .returned (.int .i64 (cfgV win pr P)) ∧ Fr (fun _ => False) W w' := by
  have HF : Hid (Fr (fun _ => False) W (W.alloc (.cells #[.int .i64 win, .int .i64 pr, .slice a P.length cap] 24))) := Fr.alloc _ _ _
  by_cases h1 : win < 1
  · have HV : Hid (cfgV win pr P = 34) := by show _ = _; rw [cfgV, if_pos (.inl h1)]
    rw [HV.out]
    clear hP
    go_enter Tryz.func76, Tryz.ntmps76
    go_wp2
    go_ret
    exact ⟨rfl, HF.out⟩
  by_cases h2 : 1000 < win
  · have HV : Hid (cfgV win pr P = 34) := by show _ = _; rw [cfgV, if_pos (.inr (.inl h2))]
    rw [HV.out]
    clear hP
    go_enter Tryz.func76, Tryz.ntmps76
    go_wp2
    go_ret
    exact ⟨rfl, HF.out⟩
  by_cases h3 : pr < 1
  · have HV : Hid (cfgV win pr P = 34) := by show _ = _; rw [cfgV, if_pos (.inr (.inr (.inl h3)))]
    rw [HV.out]
    clear hP
    go_enter Tryz.func76, Tryz.ntmps76
    go_wp2
    go_ret
    exact ⟨rfl, HF.out⟩
  by_cases h4 : 8 < pr
  · have HV : Hid (cfgV win pr P = 34) := by show _ = _; rw [cfgV, if_pos (.inr (.inr (.inr h4)))]
    rw [HV.out]
    clear hP
    go_enter Tryz.func76, Tryz.ntmps76
    go_wp2
    go_ret
    exact ⟨rfl, HF.out⟩
  by_cases h5 : P.length = 0
  · have HV : Hid (cfgV win pr P = 9) := by show _ = _; rw [cfgV, if_neg (by omega), if_pos h5]
    rw [HV.out]
    rw [h5] at HF ⊢
    clear hP h5
    go_enter Tryz.func76, Tryz.ntmps76
    go_wp2
    go_ret
    exact ⟨rfl, HF.out⟩
  have l0 : ((P.length : Int) == 0) = false := by simpa using (show (P.length : Int) ≠ 0 by omega)
  by_cases h6 : 8 < P.length
  · have HV : Hid (cfgV win pr P = 18) := by show _ = _; rw [cfgV, if_neg (by omega), if_neg h5, if_pos h6]
    rw [HV.out]
    have l1 : (8 : Int) < P.length := by omega
    generalize P.length = n at HF l0 l1 ⊢
    clear hP h6 h5
    go_enter Tryz.func76, Tryz.ntmps76
    go_wp2
    go_ret
    exact ⟨rfl, HF.out⟩
  have l1 : (P.length : Int) ≤ 8 := by omega
  have HV : Hid (cfgV win pr P = chkParts P 0) := by show _ = _; rw [cfgV, if_neg (by omega), if_neg h5, if_neg h6]
  generalize cfgV win pr P = v at HV ⊢
  have HP := Lib.hid hP
  have HL : Hid (P.length ≤ 8) := by show _ ≤ _; omega
  clear hP h5 h6
  have HR := Lib.hid (RowAt.new W 24 #[.int .i64 win, .int .i64 pr, .slice a P.length cap])
  have HAB : Hid (∀ b off, a = some ⟨b, off, none⟩ → P ≠ [] → b < W.heap.size) := fun b off e hne => by
    rcases HP.out with h | ⟨b', off', e', h', _⟩
    · exact absurd h hne
    · rw [e] at e'; cases e'; exact h'
  go_enter Tryz.func76, Tryz.ntmps76
  go_upto_region 1 with (fail)
  have HP1 := Lib.hid (HP.out.fr HF.out (fun _ _ _ => id))
  generalize W.alloc _ = W1 at HF HR HP1 ⊢
  generalize W.heap.size = x at HR ⊢
  have c0 : W1.cell? ⟨x, 0, none⟩ = some (.int .i64 win) := HR.out.cell 0
  have c1 : W1.cell? ⟨x, 1, none⟩ = some (.int .i64 pr) := HR.out.cell 1
  have c2 : W1.cell? ⟨x, 2, none⟩ = some (.slice a P.length cap) := HR.out.cell 2
  go_wp2
  go_loopw [3, 38] (fun vs vi wr => ∃ (i : Nat) (s : Int), vi = .int .i64 i ∧ vs = .int .i64 s ∧ Hid (i ≤ P.length ∧ 0 ≤ s ∧ s ≤ 100 * i ∧ chkParts (P.drop i) s = chkParts P 0 ∧ Fr (fun _ => False) W1 wr)) (fun vs vi _ => P.length - (intOf vi).toNat)
  case atStart => exact ⟨0, 0, rfl, rfl, Nat.zero_le _, Int.le_refl _, Int.le_refl _, rfl, Fr.refl _ _⟩
  case round =>
    obtain ⟨i, s, rfl, rfl, HQ⟩ := hrel
    have d2 : wr.cell? ⟨x, 2, none⟩ = some (.slice a P.length cap) := (HR.out.fr HQ.out.2.2.2.2 id).cell 2
    by_cases hi : i < P.length
    · obtain ⟨b, off, y, rfl, hy, e0, e1⟩ := (HP1.out.fr HQ.out.2.2.2.2 (fun _ _ _ => id)).get hi
      have i0 : (0 : Int) ≤ i := by omega
      have i1 : (i : Int) < P.length := by omega
      have s0 := HQ.out.2.1
      have s1 : s ≤ 800 := by have := HQ.out.2.2.1; have := HL.out; omega
      have HI := Lib.hid hi
      have HY := Lib.hid hy
      have HE : Hid (chkParts (P.drop i) s = if pct y.1 = true ∧ pct y.2 = true then chkParts (P.drop (i + 1)) (s + y.1) else 34) := by
        show _ = _
        rw [List.drop_eq_getElem_cons hi, (List.getElem?_eq_some_iff.1 hy).2, chkParts]
      have HC1 := Lib.hid (pct_any y.1)
      have HC2 := Lib.hid (pct_any y.2)
      clear hi hy
      generalize hb1 : y.1 = y1 at e0 HC1 HE
      generalize hb2 : y.2 = y2 at e1 HC2 HE
      cases hp : pct y1
      · rw [hp] at HC1 HE
        clear hp hb1 hb2
        go_wp2_with (go_at_call 120; refine (HC1.out _).mono ?_; rintro e w' ⟨rfl, rfl⟩)
        go_ret
        rw [HV.out, ← HQ.out.2.2.2.1, HE.out, if_neg (by simp)]
        exact ⟨rfl, HF.out.trans (HQ.out.2.2.2.2.trans (Fr.alloc _ _ _))⟩
      · rw [hp] at HC1 HE
        have y1a := (pct_iff y1).1 hp
        obtain ⟨ya, yb⟩ := y1a
        cases hq : pct y2
        · rw [hq] at HC2 HE
          clear hp hq hb1 hb2
          have n1 := HC1
          go_wp2_with (first
            | (go_at_call 120; refine (n1.out _).mono ?_; clear n1; rintro e w' ⟨rfl, rfl⟩)
            | (go_at_call 120; refine (HC2.out _).mono ?_; rintro e w' ⟨rfl, rfl⟩))
          go_ret
          rw [HV.out, ← HQ.out.2.2.2.1, HE.out, if_neg (by simp)]
          exact ⟨rfl, HF.out.trans (HQ.out.2.2.2.2.trans (Fr.alloc _ _ _))⟩
        · rw [hq] at HC2 HE
          clear hp hq hb1 hb2
          have n1 := HC1
          go_wp2_with (first
            | (go_at_call 120; refine (n1.out _).mono ?_; clear n1; rintro e w' ⟨rfl, rfl⟩)
            | (go_at_call 120; refine (HC2.out _).mono ?_; rintro e w' ⟨rfl, rfl⟩))
          go_roundw
          case rel => exact ⟨i + 1, s + y1, rfl, rfl, HI.out, by omega, by have := HQ.out.2.2.1; omega, by rw [← HQ.out.2.2.2.1, HE.out, if_pos (by simp)], HQ.out.2.2.2.2.trans (Fr.alloc _ _ _)⟩
          case measure =>
            have := HI.out
            show P.length - (intOf (Value.int .i64 ((i : Int) + 1))).toNat < P.length - (intOf (Value.int .i64 (i : Int))).toNat
            simp only [intOf]
            omega
    · have hlt : ¬ (i : Int) < P.length := by omega
      have HE : Hid (v = if s = 100 then 0 else 14) := by
        show _ = _
        rw [HV.out, ← HQ.out.2.2.2.1, List.drop_eq_nil_of_le (by omega)]; rfl
      clear hi
      by_cases hs : s = 100
      · rw [if_pos hs] at HE
        have hs' : (s != 100) = false := by simpa using hs
        clear hs
        go_wp2
        go_ret
        rw [HE.out]
        exact ⟨rfl, HF.out.trans HQ.out.2.2.2.2⟩
      · rw [if_neg hs] at HE
        have hs' : (s != 100) = true := by simpa using hs
        clear hs
        go_wp2
        go_ret
        rw [HE.out]
        exact ⟨rfl, HF.out.trans HQ.out.2.2.2.2⟩
end Go.Proofs.YtjaaljcdaamcjaaGreat.Pa
