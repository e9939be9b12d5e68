/- awake. -/
import Derived.Test.YtbjpaemldnoinaaMj
namespace Go.Proofs.Ytbjpaemldnoinaa
open Go.RowKit
set_option linter.unusedVariables false

def PA : List (Int × Int) := [(70, 0), (30, 0)]
def CA : CF := cfP 10 1 PA
def chA (t : Nat) : Ch := ⟨t, 1, false⟩
/-- The meter of the example. -/
def AWm (w : World) (B T : Nat) (L : List Ch) (W : World) : Prop := MS B CA T L W ∧ Fr (fun k => k = B) w W ∧ w.heap.size ≤ B
theorem AWm.move {w W W' : World} {B T T' : Nat} {L L' : List Ch} (h : AWm w B T L W) (hm : MS B CA T' L' W') (hf : Fr (fun k => k = B) W W') : AWm w B T' L' W' := ⟨hm, h.2.1.trans hf, h.2.2⟩
theorem AWm.charge {w W : World} {B T : Nat} {L : List Ch} (h : AWm w B T L W) (now : Int) (T' : Nat) (L' : List Ch) (hl : L.length < 100000) (h1 : chV CA T L now 1 = 0) (h2 : tiV CA T now [1] = T') (h3 : chL CA T L now 1 false = L') : Calls Try.prog 28 #[.pointer (some ⟨B, 0, none⟩), .int .i64 now, .int .i64 1, .bool false] W fun e W' => e = .returned (.int .i64 0) ∧ AWm w B T' L' W' := by
  have := charge_any h.1 now 1 false hl
  rw [h1, h2, h3] at this
  exact this.mono fun e W' ⟨he, hm, hf⟩ => ⟨he, h.move hm hf⟩
theorem AWm.has {w W : World} {B T : Nat} {L : List Ch} (h : AWm w B T L W) (now : Int) (T' : Nat) (b : Bool) (h1 : hbV CA T L now 1 = (b, 0)) (h2 : tiV CA T now [1] = T') : Calls Try.prog 27 #[.pointer (some ⟨B, 0, none⟩), .int .i64 now, .int .i64 1] W fun e W' => e = .returned (.tuple #[.bool b, .int .i64 0]) ∧ AWm w B T' L W' := by
  have := hasb_any h.1 now 1
  rw [h1, h2] at this
  exact this.mono fun e W' ⟨he, hm, hf⟩ => ⟨he, h.move hm hf⟩
set_option maxRecDepth 100000 in
set_option maxHeartbeats 2000000 in
theorem awake_any (w : World) : Calls Try.prog 18 #[] w fun e w' => e = .returned (.bool true) ∧ Fr (fun _ => False) w w' := by
  have HN : Hid (∀ W g, Fr (fun _ => False) w W → g < W.heap.size → W.cell? ⟨g, 0, none⟩ = some (.int .i64 70) → W.cell? ⟨g, 1, none⟩ = some (.int .i64 0) → W.cell? ⟨g, 2, none⟩ = some (.int .i64 30) → W.cell? ⟨g, 3, none⟩ = some (.int .i64 0) → Calls Try.prog 19 #[.agg #[.int .i64 10, .int .i64 1, .slice (some ⟨g, 0, none⟩) 2 2]] W fun e W' => ∃ B, e = .returned (.tuple #[.pointer (some ⟨B, 0, none⟩), .int .i64 0]) ∧ AWm w B 0 [] W') := fun W g hf hg h0 h1 h2 h3 => by
    refine (pnew_ok W 10 1 (some ⟨g, 0, none⟩) 2 PA (.inr ⟨g, 0, rfl, hg, fun i x hx => ?_⟩) (by decide +kernel)).mono fun e W' ⟨B, he, hB, hm, hf2⟩ => ⟨B, he, hm, (hf.trans hf2).mono fun _ _ e => e.elim, Nat.le_trans hf.size hB⟩
    match i, hx with
    | 0, hx => cases hx; exact ⟨h0, h1⟩
    | 1, hx => cases hx; exact ⟨h2, h3⟩
  have HC0 : Hid (∀ B W, AWm w B 0 [] W → Calls Try.prog 28 #[.pointer (some ⟨B, 0, none⟩), .int .i64 0, .int .i64 1, .bool false] W fun e W' => e = .returned (.int .i64 0) ∧ AWm w B 0 [chA 0] W') := fun B W h => h.charge 0 0 _ (by decide) (by decide +kernel) (by decide +kernel) rfl
  have HC1 : Hid (∀ B W, AWm w B 0 [chA 0] W → Calls Try.prog 28 #[.pointer (some ⟨B, 0, none⟩), .int .i64 1, .int .i64 1, .bool false] W fun e W' => e = .returned (.int .i64 0) ∧ AWm w B 1 [chA 0, chA 1] W') := fun B W h => h.charge 1 1 _ (by decide) (by decide +kernel) (by decide +kernel) rfl
  have HC2 : Hid (∀ B W, AWm w B 1 [chA 0, chA 1] W → Calls Try.prog 28 #[.pointer (some ⟨B, 0, none⟩), .int .i64 2, .int .i64 1, .bool false] W fun e W' => e = .returned (.int .i64 0) ∧ AWm w B 2 [chA 0, chA 1, chA 2] W') := fun B W h => h.charge 2 2 _ (by decide) (by decide +kernel) (by decide +kernel) rfl
  have HH0 : Hid (∀ B W, AWm w B 2 [chA 0, chA 1, chA 2] W → Calls Try.prog 27 #[.pointer (some ⟨B, 0, none⟩), .int .i64 3, .int .i64 1] W fun e W' => e = .returned (.tuple #[.bool false, .int .i64 0]) ∧ AWm w B 3 [chA 0, chA 1, chA 2] W') := fun B W h => h.has 3 3 false (by decide +kernel) (by decide +kernel)
  have HH1 : Hid (∀ B W, AWm w B 3 [chA 0, chA 1, chA 2] W → Calls Try.prog 27 #[.pointer (some ⟨B, 0, none⟩), .int .i64 11, .int .i64 1] W fun e W' => e = .returned (.tuple #[.bool true, .int .i64 0]) ∧ AWm w B 11 [chA 0, chA 1, chA 2] W') := fun B W h => h.has 11 11 true (by decide +kernel) (by decide +kernel)
  go_enter Try.func18, Try.ntmps18
  go_wp2_with (first
    | (go_at_call 19; refine (HN.out _ _ (Fr.alloc _ _ _) (by go_simp) (by go_simp) (by go_simp) (by go_simp) (by go_simp)).mono ?_; rintro e W1 ⟨B, rfl, b0⟩; have a0 := Lib.hid b0; clear b0)
    | (go_at_call 28; refine (HC0.out _ _ a0.out).mono ?_; clear a0; rintro e W2 ⟨rfl, b1⟩; have a1 := Lib.hid b1; clear b1)
    | (go_at_call 28; refine (HC1.out _ _ a1.out).mono ?_; clear a1; rintro e W3 ⟨rfl, b2⟩; have a2 := Lib.hid b2; clear b2)
    | (go_at_call 28; refine (HC2.out _ _ a2.out).mono ?_; clear a2; rintro e W4 ⟨rfl, b3⟩; have a3 := Lib.hid b3; clear b3)
    | (go_at_call 27; refine (HH0.out _ _ a3.out).mono ?_; clear a3; rintro e W5 ⟨rfl, b4⟩; have a4 := Lib.hid b4; clear b4)
    | (go_at_call 27; refine (HH1.out _ _ a4.out).mono ?_; clear a4; rintro e W6 ⟨rfl, b5⟩; have a5 := Lib.hid b5; clear b5))
  go_ret
  exact ⟨rfl, a5.out.2.1.mono fun k hk e => by have := a5.out.2.2; omega⟩
end Go.Proofs.Ytbjpaemldnoinaa
