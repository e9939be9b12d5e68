/- The reference's Check. -/
import Derived.Test.YtbjpaemldnoinaaHf
namespace Go.Proofs.Ytbjpaemldnoinaa
open Go.RowKit
set_option linter.unusedVariables false

set_option maxRecDepth 100000 in
set_option maxHeartbeats 1000000 in
theorem rcheck_any (W : World) (win pr : Int) (a : Option Addr) (cap : Nat) (P : List (Int × Int)) (hP : PartsIn W a P) : Calls Try.prog 23 #[.agg #[.int .i64 win, .int .i64 pr, .slice a P.length cap]] W fun e w' => e = .returned (.int .i64 (cfgV win pr P)) ∧ Fr (fun _ => False) W w' := by
  have HF : Hid (Fr (fun _ => False) W (W.alloc (.cells #[.int .i64 win, .int .i64 pr, .slice a P.length cap] 51))) := Fr.alloc _ _ _
  by_cases h1 : win < 1
  · have HV : Hid (cfgV win pr P = 34) := by show _ = _; rw [cfgV, if_pos (.inl h1)]
    rw [HV.out]
    clear hP
    go_enter Try.func23, Try.ntmps23
    go_wp2
    go_ret
    exact ⟨rfl, HF.out⟩
  by_cases h2 : 1000 < win
  · have HV : Hid (cfgV win pr P = 34) := by show _ = _; rw [cfgV, if_pos (.inr (.inl h2))]
    rw [HV.out]
    clear hP
    go_enter Try.func23, Try.ntmps23
    go_wp2
    go_ret
    exact ⟨rfl, HF.out⟩
  by_cases h3 : pr < 1
  · have HV : Hid (cfgV win pr P = 34) := by show _ = _; rw [cfgV, if_pos (.inr (.inr (.inl h3)))]
    rw [HV.out]
    clear hP
    go_enter Try.func23, Try.ntmps23
    go_wp2
    go_ret
    exact ⟨rfl, HF.out⟩
  by_cases h4 : 8 < pr
  · have HV : Hid (cfgV win pr P = 34) := by show _ = _; rw [cfgV, if_pos (.inr (.inr (.inr h4)))]
    rw [HV.out]
    clear hP
    go_enter Try.func23, Try.ntmps23
    go_wp2
    go_ret
    exact ⟨rfl, HF.out⟩
  by_cases h5 : P.length = 0
  · have HV : Hid (cfgV win pr P = 9) := by show _ = _; rw [cfgV, if_neg (by omega), if_pos h5]
    rw [HV.out]
    rw [h5] at HF ⊢
    clear hP h5
    go_enter Try.func23, Try.ntmps23
    go_wp2
    go_ret
    exact ⟨rfl, HF.out⟩
  have l0 : ((P.length : Int) == 0) = false := by simpa using (show (P.length : Int) ≠ 0 by omega)
  by_cases h6 : 8 < P.length
  · have HV : Hid (cfgV win pr P = 18) := by show _ = _; rw [cfgV, if_neg (by omega), if_neg h5, if_pos h6]
    rw [HV.out]
    have l1 : (8 : Int) < P.length := by omega
    generalize P.length = n at HF l0 l1 ⊢
    clear hP h6 h5
    go_enter Try.func23, Try.ntmps23
    go_wp2
    go_ret
    exact ⟨rfl, HF.out⟩
  have l1 : (P.length : Int) ≤ 8 := by omega
  have HV : Hid (cfgV win pr P = chkParts P 0) := by show _ = _; rw [cfgV, if_neg (by omega), if_neg h5, if_neg h6]
  generalize cfgV win pr P = v at HV ⊢
  have HP := Lib.hid hP
  have HL : Hid (P.length ≤ 8) := by show _ ≤ _; omega
  clear hP h5 h6
  have HR := Lib.hid (RowAt.new W 51 #[.int .i64 win, .int .i64 pr, .slice a P.length cap])
  have HAB : Hid (∀ b off, a = some ⟨b, off, none⟩ → P ≠ [] → b < W.heap.size) := fun b off e hne => by
    rcases HP.out with h | ⟨b', off', e', h', _⟩
    · exact absurd h hne
    · rw [e] at e'; cases e'; exact h'
  go_enter Try.func23, Try.ntmps23
  go_upto_region 1 with (fail)
  have HP1 := Lib.hid (HP.out.fr HF.out (fun _ _ _ => id))
  generalize W.alloc _ = W1 at HF HR HP1 ⊢
  generalize W.heap.size = x at HR ⊢
  have c0 : W1.cell? ⟨x, 0, none⟩ = some (.int .i64 win) := HR.out.cell 0
  have c1 : W1.cell? ⟨x, 1, none⟩ = some (.int .i64 pr) := HR.out.cell 1
  have c2 : W1.cell? ⟨x, 2, none⟩ = some (.slice a P.length cap) := HR.out.cell 2
  go_wp2
  go_loopw [3, 4] (fun vs vi wr => ∃ (i : Nat) (s : Int), vi = .int .i64 i ∧ vs = .int .i64 s ∧ Hid (i ≤ P.length ∧ 0 ≤ s ∧ s ≤ 100 * i ∧ chkParts (P.drop i) s = chkParts P 0 ∧ Fr (fun _ => False) W1 wr)) (fun vs vi _ => P.length - (intOf vi).toNat)
  case atStart => exact ⟨0, 0, rfl, rfl, Nat.zero_le _, Int.le_refl _, Int.le_refl _, rfl, Fr.refl _ _⟩
  case round =>
    obtain ⟨i, s, rfl, rfl, HQ⟩ := hrel
    have d2 : wr.cell? ⟨x, 2, none⟩ = some (.slice a P.length cap) := (HR.out.fr HQ.out.2.2.2.2 id).cell 2
    by_cases hi : i < P.length
    · obtain ⟨b, off, y, rfl, hy, e0, e1⟩ := (HP1.out.fr HQ.out.2.2.2.2 (fun _ _ _ => id)).get hi
      have i0 : (0 : Int) ≤ i := by omega
      have i1 : (i : Int) < P.length := by omega
      have s0 := HQ.out.2.1
      have s1 : s ≤ 800 := by have := HQ.out.2.2.1; have := HL.out; omega
      have HI := Lib.hid hi
      have HY := Lib.hid hy
      have HE : Hid (chkParts (P.drop i) s = if pct y.1 = true ∧ pct y.2 = true then chkParts (P.drop (i + 1)) (s + y.1) else 34) := by
        show _ = _
        rw [List.drop_eq_getElem_cons hi, (List.getElem?_eq_some_iff.1 hy).2, chkParts]
      clear hi hy
      obtain ⟨y1, y2⟩ := y
      have e0' : wr.cell? ⟨b, off + i * 2, none⟩ = some (.int .i64 y1) := e0
      have e1' : wr.cell? ⟨b, off + i * 2 + 1, none⟩ = some (.int .i64 y2) := e1
      have HE : Hid (chkParts (P.drop i) s = if pct y1 = true ∧ pct y2 = true then chkParts (P.drop (i + 1)) (s + y1) else 34) := HE
      clear e0 e1
      have HF3 : Hid (Fr (fun _ => False) W1 (wr.alloc (.cells #[.int .i64 y1, .int .i64 y2] 107))) := HQ.out.2.2.2.2.trans (Fr.alloc _ _ _)
      by_cases a1 : y1 < 0
      · have g1 : decide (y1 < 0) = true := decide_eq_true a1
        have HN : Hid (¬ ((0 ≤ y1 ∧ y1 ≤ 100) ∧ (0 ≤ y2 ∧ y2 ≤ 100))) := by show ¬ _; omega
        clear a1
        go_wp2
        go_ret
        rw [HV.out, ← HQ.out.2.2.2.1, HE.out, if_neg (fun h => HN.out ⟨(pct_iff _).1 h.1, (pct_iff _).1 h.2⟩)]
        exact ⟨rfl, HF.out.trans HF3.out⟩
      have g1 : decide (y1 < 0) = false := decide_eq_false a1
      by_cases a2 : 100 < y1
      · have g2 : decide (100 < y1) = true := decide_eq_true a2
        have HN : Hid (¬ ((0 ≤ y1 ∧ y1 ≤ 100) ∧ (0 ≤ y2 ∧ y2 ≤ 100))) := by show ¬ _; omega
        clear a1 a2
        go_wp2
        go_ret
        rw [HV.out, ← HQ.out.2.2.2.1, HE.out, if_neg (fun h => HN.out ⟨(pct_iff _).1 h.1, (pct_iff _).1 h.2⟩)]
        exact ⟨rfl, HF.out.trans HF3.out⟩
      have g2 : decide (100 < y1) = false := decide_eq_false a2
      by_cases a3 : y2 < 0
      · have g3 : decide (y2 < 0) = true := decide_eq_true a3
        have HN : Hid (¬ ((0 ≤ y1 ∧ y1 ≤ 100) ∧ (0 ≤ y2 ∧ y2 ≤ 100))) := by show ¬ _; omega
        clear a1 a2 a3
        go_wp2
        go_ret
        rw [HV.out, ← HQ.out.2.2.2.1, HE.out, if_neg (fun h => HN.out ⟨(pct_iff _).1 h.1, (pct_iff _).1 h.2⟩)]
        exact ⟨rfl, HF.out.trans HF3.out⟩
      have g3 : decide (y2 < 0) = false := decide_eq_false a3
      by_cases a4 : 100 < y2
      · have g4 : decide (100 < y2) = true := decide_eq_true a4
        have HN : Hid (¬ ((0 ≤ y1 ∧ y1 ≤ 100) ∧ (0 ≤ y2 ∧ y2 ≤ 100))) := by show ¬ _; omega
        clear a1 a2 a3 a4
        go_wp2
        go_ret
        rw [HV.out, ← HQ.out.2.2.2.1, HE.out, if_neg (fun h => HN.out ⟨(pct_iff _).1 h.1, (pct_iff _).1 h.2⟩)]
        exact ⟨rfl, HF.out.trans HF3.out⟩
      have g4 : decide (100 < y2) = false := decide_eq_false a4
      have ya : 0 ≤ y1 := by omega
      have yb : y1 ≤ 100 := by omega
      have HY1 : Hid (pct y1 = true ∧ pct y2 = true) := ⟨(pct_iff _).2 ⟨ya, yb⟩, (pct_iff _).2 ⟨by omega, by omega⟩⟩
      clear a1 a2 a3 a4
      go_wp2
      go_roundw
      case rel => exact ⟨i + 1, s + y1, by push_cast; rfl, rfl, HI.out, by omega, by have := HQ.out.2.2.1; omega, by rw [← HQ.out.2.2.2.1, HE.out, if_pos HY1.out], HF3.out⟩
      case measure =>
        have := HI.out
        show P.length - (intOf (Value.int .i64 ((i : Int) + 1))).toNat < P.length - (intOf (Value.int .i64 (i : Int))).toNat
        simp only [intOf]
        omega
    · have hlt : ¬ (i : Int) < P.length := by omega
      have HE : Hid (v = if s = 100 then 0 else 14) := by
        show _ = _
        rw [HV.out, ← HQ.out.2.2.2.1, List.drop_eq_nil_of_le (by omega)]; rfl
      clear hi
      by_cases hs : s = 100
      · rw [if_pos hs] at HE
        have hs' : (s != 100) = false := by simpa using hs
        clear hs
        go_wp2
        go_ret
        rw [HE.out]
        exact ⟨rfl, HF.out.trans HQ.out.2.2.2.2⟩
      · rw [if_neg hs] at HE
        have hs' : (s != 100) = true := by simpa using hs
        clear hs
        go_wp2
        go_ret
        rw [HE.out]
        exact ⟨rfl, HF.out.trans HQ.out.2.2.2.2⟩
end Go.Proofs.Ytbjpaemldnoinaa
