/- The meter's has, slotOf, check, count. -/
import Derived.Test.YtjaaljcdaamcjaaGreatMa
namespace Go.Proofs.YtjaaljcdaamcjaaGreat.Pa
open Go.RowKit
set_option linter.unusedVariables false

def hasB (np : Nat) (p : Int) : Bool := decide (0 ≤ p) && decide (p < np)
theorem hasB_iff (np : Nat) (p : Int) : hasB np p = true ↔ 0 ≤ p ∧ p < np := by simp [hasB]
theorem has_any {W : World} {B : Nat} {q : MQ} (h : MAt W B q) (p : Int) : Calls Tryz.prog 78 #[.pointer (some ⟨B, 0, none⟩), .int .i64 p] W fun e w' => e = .returned (.bool (hasB q.np p)) ∧ W = w' := by
  have c2 := h.np
  clear h
  by_cases hp : 0 ≤ p
  · have HV : Hid (hasB q.np p = decide (p < (q.np : Int))) := by show _ = _; simp [hasB, hp]
    go_enter Tryz.func78, Tryz.ntmps78
    go_wp2
    go_ret
    exact ⟨by rw [HV.out] <;> rfl, rfl⟩
  · have HV : Hid (hasB q.np p = false) := by show _ = _; simp [hasB, hp]
    have h2 : decide (0 ≤ p) = false := by simpa using hp
    go_enter Tryz.func78, Tryz.ntmps78
    go_wp2
    go_ret
    exact ⟨by rw [HV.out] <;> rfl, rfl⟩

theorem slotof_any {W : World} {B : Nat} {q : MQ} (h : MAt W B q) (h0 : 0 < q.win) (h1 : q.win ≤ 1000) (t : Nat) : Calls Tryz.prog 147 #[.pointer (some ⟨B, 0, none⟩), .int .i64 (t : Int)] W fun e w' => e = .returned (.pointer (some ⟨B, 35 + t % q.win * 24, none⟩)) ∧ Fr (fun _ => False) W w' := by
  have c0 := h.win
  have a0 : (0 : Int) ≤ t := by omega
  have a1 : (0 : Int) < q.win := by omega
  have a2 : (q.win : Int) ≤ 1000 := by omega
  have a3 : 0 ≤ (t : Int) % q.win := Int.emod_nonneg _ (by omega)
  have a4 : (t : Int) % q.win < 1000 := Int.lt_of_lt_of_le (Int.emod_lt_of_pos _ a1) a2
  have HT : Hid (((t : Int) % q.win).toNat = t % q.win) := by show _ = _; rw [← Int.natCast_emod, Int.toNat_natCast]
  clear h
  go_enter Tryz.func147, Tryz.ntmps147
  go_wp2
  go_region
  go_wp2
  go_ret
  exact ⟨rfl, Fr.drew _ _⟩

/-- The error of a call at a time, with partitions. -/
def chkP4 (np told : Nat) (now : Int) (ps : List Int) : Int := if now < 0 ∨ 1099511627776 < now then 34 else if (ps.all (hasB np)) = true then (if now < told then 30 else 0) else 34
theorem check_nil (now : Int) (ps : Value) (W : World) : Calls Tryz.prog 145 #[.pointer none, .int .i64 now, ps] W fun e w' => e = .returned (.int .i64 35) ∧ W = w' := by
  go_enter Tryz.func145, Tryz.ntmps145
  go_wp2
  go_ret
  exact ⟨rfl, rfl⟩
set_option maxRecDepth 100000 in
set_option maxHeartbeats 1000000 in
theorem check_any {W : World} {B : Nat} {q : MQ} (h : MAt W B q) (now : Int) (ps : List Int) (hps : ps.length ≤ 2) (g cap : Nat) (hg : ∀ i x, ps[i]? = some x → W.cell? ⟨g, i, none⟩ = some (.int .i64 x)) : Calls Tryz.prog 145 #[.pointer (some ⟨B, 0, none⟩), .int .i64 now, .slice (some ⟨g, 0, none⟩) ps.length cap] W fun e w' => e = .returned (.int .i64 (chkP4 q.np q.told now ps)) ∧ W = w' := by
  have c5 := h.told
  by_cases h1 : now < 0
  · have HV : Hid (chkP4 q.np q.told now ps = 34) := by show _ = _; rw [chkP4, if_pos (.inl h1)]
    clear h hg c5
    go_enter Tryz.func145, Tryz.ntmps145
    go_wp2
    go_ret
    exact ⟨by rw [HV.out] <;> rfl, rfl⟩
  by_cases h2 : 1099511627776 < now
  · have HV : Hid (chkP4 q.np q.told now ps = 34) := by show _ = _; rw [chkP4, if_pos (.inr h2)]
    clear h hg c5
    go_enter Tryz.func145, Tryz.ntmps145
    go_wp2
    go_ret
    exact ⟨by rw [HV.out] <;> rfl, rfl⟩
  have HV : Hid (chkP4 q.np q.told now ps = if (ps.all (hasB q.np)) = true then (if now < q.told then 30 else 0) else 34) := by show _ = _; rw [chkP4, if_neg (by omega)]
  generalize chkP4 q.np q.told now ps = v at HV ⊢
  have HG := Lib.hid hg
  have HH := Lib.hid h
  clear hg h
  go_enter Tryz.func145, Tryz.ntmps145
  go_wp2
  go_loop [21] (fun vi => ∃ i : Nat, vi = .int .i64 i ∧ Hid (i ≤ ps.length ∧ (ps.take i).all (hasB q.np) = true)) (fun vi => ps.length - (intOf vi).toNat)
  case atStart => exact ⟨0, rfl, Nat.zero_le _, rfl⟩
  case round =>
    obtain ⟨i, rfl, HR⟩ := hrel
    by_cases hi : i < ps.length
    · obtain ⟨x, hx⟩ : ∃ x, ps[i]? = some x := ⟨_, List.getElem?_eq_getElem hi⟩
      have d0 := HG.out i x hx
      have i0 : (0 : Int) ≤ i := by omega
      have i1 : (i : Int) < ps.length := by omega
      have i2 : (i : Int) < 2 := by omega
      have HX := Lib.hid hx
      have HI := Lib.hid hi
      have HC := Lib.hid (has_any HH.out x)
      clear hi hx
      cases hb : hasB q.np x
      · rw [hb] at HC
        have HB := Lib.hid hb
        clear hb
        go_wp2_with (go_at_call 78; refine HC.out.mono ?_; rintro e w' ⟨rfl, rfl⟩)
        go_ret
        refine ⟨?_, rfl⟩
        rw [HV.out, if_neg]
        · rfl
        · intro e
          have := List.all_eq_true.1 e x (List.mem_of_getElem? HX.out)
          rw [HB.out] at this
          cases this
      · rw [hb] at HC
        have HB := Lib.hid hb
        clear hb
        go_wp2_with (go_at_call 78; refine HC.out.mono ?_; rintro e w' ⟨rfl, rfl⟩)
        go_round
        case rel => exact ⟨i + 1, rfl, HI.out, by rw [List.take_add_one, HX.out, List.all_append, HR.out.2]; simp [HB.out]⟩
        case measure =>
          have := HI.out
          show ps.length - (intOf (Value.int .i64 ((i : Int) + 1))).toNat < ps.length - (intOf (Value.int .i64 (i : Int))).toNat
          simp only [intOf]
          omega
    · have hlt : ¬ (i : Int) < ps.length := by omega
      have HE : Hid (ps.all (hasB q.np) = true) := by have e := HR.out.2; rw [show i = ps.length from by have := HR.out.1; omega, List.take_length] at e; exact e
      rw [if_pos HE.out] at HV
      clear hi
      by_cases h3 : now < q.told
      · rw [if_pos h3] at HV
        go_wp2
        go_ret
        exact ⟨by rw [HV.out] <;> rfl, rfl⟩
      · rw [if_neg h3] at HV
        go_wp2
        go_ret
        exact ⟨by rw [HV.out] <;> rfl, rfl⟩
end Go.Proofs.YtjaaljcdaamcjaaGreat.Pa
