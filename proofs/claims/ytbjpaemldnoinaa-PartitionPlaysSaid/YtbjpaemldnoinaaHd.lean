/- The reference's Budget. -/
import Derived.Test.YtbjpaemldnoinaaHc
namespace Go.Proofs.Ytbjpaemldnoinaa
open Go.RowKit
set_option linter.unusedVariables false

set_option maxRecDepth 100000 in
theorem rbudget_nil (p : Int) (W : World) : Calls Try.prog 26 #[.pointer none, .int .i64 p] W fun e w' => e = .returned (.tuple #[.int .i64 0, .int .i64 0, .int .i64 35]) ∧ W = w' := by
  go_enter Try.func26, Try.ntmps26
  go_wp2
  go_ret3
  exact ⟨rfl, rfl⟩
set_option maxRecDepth 100000 in
set_option maxHeartbeats 2000000 in
theorem rbudget_any {W : World} {lo G w p T : Nat} {P : List (Int × Int)} {L : List Ch} (h : RM lo G w p P T L W) (k : Int) : Calls Try.prog 26 #[.pointer (some ⟨G, 0, none⟩), .int .i64 k] W fun e w' => e = .returned (.tuple #[.int .i64 (buV (cfP w p P) k).1, .int .i64 (buV (cfP w p P) k).2.1, .int .i64 (buV (cfP w p P) k).2.2]) ∧ Fr (fun _ => False) W w' := by
  obtain ⟨pb, cp, v, h⟩ := h
  have HH := Lib.hid h
  have c2 : W.cell? ⟨G, 2, none⟩ = some (.slice (some ⟨pb, 0, none⟩) P.length cp) := h.row.cell 2
  have l8 : (P.length : Int) ≤ 8 := by have := (cfg_ok h.ok).2.2.2.1; omega
  cases hb : hasB P.length k
  · have HV : Hid (buV (cfP w p P) k = (0, 0, 34)) := by show _ = _; rw [buV, if_neg]; show ¬ (hasB P.length k = true); rw [hb]; simp
    rw [HV.out]
    have hx : ¬ (0 ≤ k ∧ k < P.length) := by rw [← hasB_iff, hb]; simp
    by_cases h0 : k < 0
    · have g0 : decide (k < 0) = true := decide_eq_true h0
      clear h hb hx
      go_enter Try.func26, Try.ntmps26
      go_wp2
      go_ret3
      exact ⟨rfl, Fr.refl _ _⟩
    · have g0 : decide (k < 0) = false := decide_eq_false h0
      have g1 : (P.length : Int) ≤ k := by omega
      clear h hb hx
      go_enter Try.func26, Try.ntmps26
      go_wp2
      go_ret3
      exact ⟨rfl, Fr.refl _ _⟩
  · obtain ⟨k0, k1⟩ := (hasB_iff _ _).1 hb
    obtain ⟨j, rfl⟩ : ∃ j : Nat, k = j := ⟨k.toNat, by omega⟩
    obtain ⟨s, c, hs, hc, eb, ec, hcl⟩ := h.part (k := j) (by omega)
    have HCL := Lib.hid hcl
    have HV : Hid (buV (cfP w p P) j = (budI w p s, budI w p c, 0)) := by show _ = _; rw [buV, if_pos (show hasB (cfP w p P).np (j : Int) = true from hb), ← eb, ← ec]; rfl
    rw [HV.out]
    have HB1 : Hid (∀ W2, RA lo G pb cp v w p P T L W2 → Calls Try.prog 60 #[.pointer (some ⟨G, 0, none⟩), .int .i64 s] W2 fun e w' => e = .returned (.int .i64 (budI w p s)) ∧ Fr (fun _ => False) W2 w') := fun W2 h2 => rbud_any h2 s hs
    have HB2 : Hid (∀ W2, RA lo G pb cp v w p P T L W2 → Calls Try.prog 60 #[.pointer (some ⟨G, 0, none⟩), .int .i64 c] W2 fun e w' => e = .returned (.int .i64 (budI w p c)) ∧ Fr (fun _ => False) W2 w') := fun W2 h2 => rbud_any h2 c hc
    have g0 : decide ((j : Int) < 0) = false := decide_eq_false (by omega)
    have c3 : W.cell? ⟨pb, j * 2, none⟩ = some (.int .i64 s) := (HCL.out _ (Fr.refl _ _)).1
    have c4 : W.cell? ⟨pb, j * 2 + 1, none⟩ = some (.int .i64 c) := (HCL.out _ (Fr.refl _ _)).2
    have HKd : Hid (∀ W2, Fr (fun _ => False) W.drew W2 → W2.cell? ⟨G, 2, none⟩ = some (.slice (some ⟨pb, 0, none⟩) P.length cp) ∧ W2.cell? ⟨pb, j * 2, none⟩ = some (.int .i64 s) ∧ W2.cell? ⟨pb, j * 2 + 1, none⟩ = some (.int .i64 c)) := fun W2 f => by
      obtain ⟨e1, e2⟩ := HCL.out _ ((Fr.drew (fun k => k = G) W).trans (f.mono fun _ _ e => e.elim))
      exact ⟨((show RowAt W.drew G _ _ from HH.out.row).fr f id).cell 2, e1, e2⟩
    generalize budI w p s = b1 at HB1 ⊢
    generalize budI w p c = b2 at HB2 ⊢
    clear h hb hs hc eb ec hcl
    go_enter Try.func26, Try.ntmps26
    go_upto_region 5 with (fail)
    have n1 := HB1
    go_region_held3 (fun w' => w'.cell? ⟨G, 2, none⟩ = some (.slice (some ⟨pb, 0, none⟩) P.length cp) ∧ w'.cell? ⟨pb, j * 2, none⟩ = some (.int .i64 s) ∧ w'.cell? ⟨pb, j * 2 + 1, none⟩ = some (.int .i64 c))
      (first | (with_reducible exact HKd.out _ F5.out) | (with_reducible exact HKd.out _ F4.out) | exact ⟨c2, c3, c4⟩ | go_keep)
      (first
        | (go_at_call 60; refine (n1.out _ (HH.out.rest (Fr.drew _ _))).mono ?_; clear n1; rintro e W4 ⟨rfl, f4⟩; have F4 := Lib.hid f4; clear f4)
        | (go_at_call 60; refine (HB2.out _ ((HH.out.rest (Fr.drew _ _)).rest F4.out)).mono ?_; rintro e W5 ⟨rfl, f5⟩; have F5 := Lib.hid (F4.out.trans f5); clear f5))
    go_wp2
    go_ret3
    exact ⟨rfl, (Fr.drew _ _).trans F5.out⟩
end Go.Proofs.Ytbjpaemldnoinaa
