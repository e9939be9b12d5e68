/- The stable sort of many. -/
import Derived.Test.YteikipiigbjgbaaEd
namespace Go.Proofs.Yteikipiigbjgbaa
open Go.RowKit
set_option linter.unusedVariables false

theorem sym_any : ∀ N : Nat, SymOk N
  | 0 => fun W b x n xs C cap p m q hS hx hc h1 h2 h3 h4 h5 => by omega
  | N + 1 => fun W b x n xs C cap p m q hS hx hc h1 h2 h3 h4 h5 => by
    by_cases e1 : m = p + 1
    · subst e1
      have := symmerge_one hS hx hc cap p q (by omega) h3 h4
      rw [show ((p + 1 : Nat) : Int) = (p : Int) + 1 from by push_cast; rfl]
      exact this
    · by_cases e2 : q = m + 1
      · subst e2
        have := symmerge_last hS hx hc cap p m (by omega) h3 h4
        rw [show ((m + 1 : Nat) : Int) = (m : Int) + 1 from by push_cast; rfl]
        exact this
      · exact symmerge_gen (sym_any N) hS hx hc cap p m q (by omega) (by omega) h3 h4 (by omega)
set_option maxRecDepth 100000 in
set_option maxHeartbeats 8000000 in
theorem stable_thirty {m : Nat} (hm : 20 ≤ m) (hm2 : m < 40) : StableOk m := by
  intro W b x n xs C cap hl hS hx hc
  have HI1 : Hid (Calls Try.prog 70 #[.slice (some ⟨b, 0, none⟩) xs.length cap, .int .i64 0, .int .i64 20, cmpF x] W fun e w' => e = .returned (.tuple #[]) ∧ Srt w' b xs ∧ Fr (fun k => k = b) W w') := insertion_any hS hx hc cap 0 20 (Nat.zero_le _) (by omega) (by omega)
  have HI2 : Hid (∀ w, Srt w b xs → Fr (fun k => k = b) W w → Calls Try.prog 70 #[.slice (some ⟨b, 0, none⟩) xs.length cap, .int .i64 20, .int .i64 (m : Int), cmpF x] w fun e w' => e = .returned (.tuple #[]) ∧ Srt w' b xs ∧ Fr (fun k => k = b) w w') := fun w a1 a2 => insertion_any a1 hx (hc.fr a2) cap 20 m hm (by omega) (by omega)
  have HSY : Hid (∀ w, Srt w b xs → Fr (fun k => k = b) W w → (20 : Int) < m → Calls Try.prog 71 #[.slice (some ⟨b, 0, none⟩) xs.length cap, .int .i64 0, .int .i64 20, .int .i64 (m : Int), cmpF x] w fun e w' => e = .returned (.tuple #[]) ∧ Srt w' b xs ∧ Fr (fun k => k = b) w w') := fun w a1 a2 a3 => sym_any m w b x n xs C cap 0 20 m a1 hx (hc.fr a2) (by omega) (by omega) (by omega) (by omega) (by omega)
  rw [hl] at HI1 HI2 HSY
  have m1 : (20 : Int) ≤ m := by omega
  have m2 : ¬ (40 : Int) ≤ m := by omega
  have m3 : ¬ (40 : Int) < m := by omega
  have m4 : (m : Int) < 40 := by omega
  clear hS hx hc hm hm2
  unfold cmpF at HI1 HI2 HSY ⊢
  go_enter Try.func68, Try.ntmps68
  go_wp2
  refine wp_loop_rounds 2 ?_
  rw [rounds_succ]
  go_wp2_with (go_at_call 70; refine HI1.out.mono ?_; rintro e w1 ⟨rfl, hs1, hf1⟩; have HS1 := Lib.hid hs1; have HF1 := Lib.hid hf1; clear hs1 hf1)
  rw [rounds_succ]
  go_wp2_with (go_at_call 70; refine (HI2.out _ HS1.out HF1.out).mono ?_; rintro e w2 ⟨rfl, hs2, hf2⟩; have HS2 := Lib.hid hs2; have HF2 := Lib.hid (HF1.out.trans hf2); clear hs2 hf2)
  by_cases h20 : (20 : Int) < m
  · refine wp_loop_rounds 2 ?_
    rw [rounds_succ]
    go_wp2
    refine wp_loop_rounds 1 ?_
    rw [rounds_succ]
    go_wp2_with (go_at_call 71; refine (HSY.out _ HS2.out HF2.out (by omega)).mono ?_; rintro e w3 ⟨rfl, hs3, hf3⟩; have HS3 := Lib.hid hs3; have HF3 := Lib.hid (HF2.out.trans hf3); clear hs3 hf3)
    rw [rounds_succ]
    go_wp2
    go_end0
    exact ⟨rfl, HS3.out, HF3.out⟩
  · refine wp_loop_rounds 1 ?_
    rw [rounds_succ]
    go_wp2
    go_end0
    exact ⟨rfl, HS2.out, HF2.out⟩
theorem stable_forty {m : Nat} (hm : m < 40) : StableOk m := by
  by_cases h : m < 20
  · exact stable_small h
  · exact stable_thirty (by omega) hm
end Go.Proofs.Yteikipiigbjgbaa
