/- The reference's Run, Budget, Priority. -/
import Derived.Test.YtibmmonboeifhaaWe
namespace Go.Proofs.Ytibmmonboeifhaa
open Go.RowKit
set_option linter.unusedVariables false

/-- Answers v, and leaves s. -/
def VR (lo B : Nat) (T b0 : Int) (v : Value) (s : AQ) (W : World) (e : Ending) (w' : World) : Prop := e = .returned v ∧ RS lo B T b0 s w' ∧ Fr (fun k => lo ≤ k) W w'
theorem rrun_nil (now : Int) (w : World) : Calls Try.prog 66 #[.pointer none, .int .i64 now] w fun e w' => e = .returned (.int .i64 35) ∧ w = w' := by
  go_enter Try.func66, Try.ntmps66
  go_wp2
  go_ret
  exact ⟨rfl, rfl⟩
theorem rbudget_nil (now : Int) (w : World) : Calls Try.prog 63 #[.pointer none, .int .i64 now] w fun e w' => e = .returned (.tuple #[.int .i64 0, .int .i64 35]) ∧ w = w' := by
  go_enter Try.func63, Try.ntmps63
  go_wp2
  go_ret2
  exact ⟨rfl, rfl⟩
theorem rpri_nil (now p : Int) (w : World) : Calls Try.prog 65 #[.pointer none, .int .i64 now, .int .i64 p] w fun e w' => e = .returned (.tuple #[.int .i64 0, .int .i64 35]) ∧ w = w' := by
  go_enter Try.func65, Try.ntmps65
  go_wp2_with (go_at_call 63; refine (rbudget_nil _ _).mono ?_; rintro e w' ⟨rfl, rfl⟩)
  go_ret2
  exact ⟨rfl, rfl⟩
theorem rnext_nil (w : World) : Calls Try.prog 35 #[.pointer none] w fun e w' => e = .returned (.tuple #[.int .i64 0, .bool false]) ∧ w = w' := by
  go_enter Try.func35, Try.ntmps35
  go_wp2
  go_ret2
  exact ⟨rfl, rfl⟩
theorem rrepl_nil (w : World) : Calls Try.prog 33 #[.pointer none] w fun e w' => e = .returned (.slice none 0 0) ∧ w = w' := by
  go_enter Try.func33, Try.ntmps33
  go_wp2
  go_ret
  exact ⟨rfl, rfl⟩

set_option maxRecDepth 100000 in
set_option maxHeartbeats 2000000 in
theorem rbudget_any {W : World} {lo B : Nat} {T b0 : Int} {s : AQ} (h : RS lo B T b0 s W) (now : Int) : Calls Try.prog 63 #[.pointer (some ⟨B, 0, none⟩), .int .i64 now] W (VR lo B T b0 (.tuple #[.int .i64 (budV now s).1, .int .i64 (budV now s).2]) (budS now s) W) := by
  have HH := Lib.hid h
  obtain ⟨_, _, _, _, c9, _⟩ := h.cells
  have HV : Hid (∀ z : Int, askA s now = z → z ≠ 0 → budV now s = (0, z) ∧ budS now s = s) := fun z hz h0 => by
    rw [budV, budS, if_pos (by rw [hz]; exact h0), if_pos (by rw [hz]; exact h0), hz]; exact ⟨rfl, rfl⟩
  have HV0 : Hid (askA s now = 0 → budV now s = ((tellA now s).bud, 0) ∧ budS now s = tellA now s) := fun hz => by
    rw [budV, budS, if_neg (by rw [hz]; simp), if_neg (by rw [hz]; simp)]; exact ⟨rfl, rfl⟩
  by_cases h1 : now < 0
  · obtain ⟨e1, e2⟩ := HV.out 34 (by rw [askA, if_pos (.inl h1)]) (by decide)
    rw [e1, e2]
    clear e1 e2 h HV HV0 c9
    go_enter Try.func63, Try.ntmps63
    go_wp2
    go_ret2
    exact ⟨rfl, HH.out, Fr.refl _ _⟩
  by_cases h2 : 1099511627776 < now
  · obtain ⟨e1, e2⟩ := HV.out 34 (by rw [askA, if_pos (.inr h2)]) (by decide)
    rw [e1, e2]
    clear e1 e2 h HV HV0 c9
    go_enter Try.func63, Try.ntmps63
    go_wp2
    go_ret2
    exact ⟨rfl, HH.out, Fr.refl _ _⟩
  by_cases h3 : now < s.told
  · obtain ⟨e1, e2⟩ := HV.out 30 (by rw [askA, if_neg (by omega), if_pos h3]) (by decide)
    rw [e1, e2]
    clear e1 e2 h HV HV0
    go_enter Try.func63, Try.ntmps63
    go_wp2
    go_ret2
    exact ⟨rfl, HH.out, Fr.refl _ _⟩
  obtain ⟨e1, e2⟩ := HV0.out (by rw [askA, if_neg (by omega), if_neg h3])
  rw [e1, e2]
  have HT := Lib.hid (rtell_any h now (by omega))
  generalize tellA now s = s1 at HT ⊢
  clear e1 e2 h HV HV0 HH
  go_enter Try.func63, Try.ntmps63
  go_upto_region 8 with (go_at_call 89; refine HT.out.mono ?_; rintro e W2 ⟨⟨v, rfl⟩, s2, g2⟩; have S2 := Lib.hid s2; have G2 := Lib.hid g2; clear s2 g2 c9)
  obtain ⟨_, c4, _⟩ := S2.out.cells
  go_wp2
  go_ret2
  exact ⟨rfl, S2.out, G2.out⟩

set_option maxRecDepth 100000 in
set_option maxHeartbeats 2000000 in
theorem rpri_any {W : World} {lo B : Nat} {T b0 : Int} {s : AQ} (h : RS lo B T b0 s W) (now p : Int) : Calls Try.prog 65 #[.pointer (some ⟨B, 0, none⟩), .int .i64 now, .int .i64 p] W (VR lo B T b0 (.tuple #[.int .i64 (priV now p s).1, .int .i64 (priV now p s).2]) (priS now p s) W) := by
  have HH := Lib.hid h
  have HB := Lib.hid (rbudget_any h now)
  have bad : isPri p ≠ true → priV now p s = (0, 34) ∧ priS now p s = s := fun e => by rw [priV, priS, if_neg e, if_neg e]; exact ⟨rfl, rfl⟩
  by_cases h1 : p < 0
  · obtain ⟨e1, e2⟩ := bad (fun e => by have := (isPri_iff p).1 e; omega)
    rw [e1, e2]
    clear e1 e2 h HB bad
    go_enter Try.func65, Try.ntmps65
    go_wp2
    go_ret2
    exact ⟨rfl, HH.out, Fr.refl _ _⟩
  by_cases h2 : 255 < p
  · obtain ⟨e1, e2⟩ := bad (fun e => by have := (isPri_iff p).1 e; omega)
    rw [e1, e2]
    clear e1 e2 h HB bad
    go_enter Try.func65, Try.ntmps65
    go_wp2
    go_ret2
    exact ⟨rfl, HH.out, Fr.refl _ _⟩
  have hp : isPri p = true := (isPri_iff p).2 ⟨by omega, by omega⟩
  have HV : Hid (priV now p s = if (budV now s).2 ≠ 0 then (0, (budV now s).2) else if (budV now s).1 = 0 then (if p < s.low then p else s.low, 0) else (p, 0)) := by show _ = _; rw [priV, if_pos hp]
  have HS : Hid (priS now p s = budS now s) := by show _ = _; rw [priS, if_pos hp]
  have HLO : Hid ((budS now s).low = s.low) := by
    show _ = _
    rw [budS]; split
    · rfl
    · rw [tellA]; split
      · show (endA (takeA (s.ran + 1) s)).low = s.low
        rw [endA]; split <;> rfl
      · rfl
  generalize priV now p s = v at HV ⊢
  generalize priS now p s = s' at HS ⊢
  generalize budV now s = bv at HV HB
  generalize budS now s = s1 at HS HB HLO
  obtain ⟨n, z⟩ := bv
  clear h bad hp HH
  by_cases hz : z = 0
  · have hz' : (z != 0) = false := by simpa using hz
    have HV2 : Hid (v = if n = 0 then (if p < s.low then p else s.low, 0) else (p, 0)) := by show _ = _; rw [HV.out, if_neg (by simpa using hz)]
    clear hz HV
    by_cases hn : n = 0
    · have hn' : (n == 0) = true := by simpa using hn
      have HV3 : Hid (v = (if p < s.low then p else s.low, 0)) := by show _ = _; rw [HV2.out, if_pos hn]
      clear hn HV2
      go_enter Try.func65, Try.ntmps65
      go_upto_region 6 with (go_at_call 63; refine HB.out.mono ?_; rintro e W2 ⟨rfl, s2, g2⟩; have S2 := Lib.hid s2; have G2 := Lib.hid g2; clear s2 g2)
      obtain ⟨c3, _⟩ := S2.out.cells
      rw [HLO.out] at c3
      by_cases hl : s.low < p
      · have HV4 : Hid (v = (s.low, 0)) := by show _ = _; rw [HV3.out, if_neg (by omega)]
        go_wp2
        go_ret2
        exact ⟨by rw [HV4.out] <;> rfl, by rw [HS.out]; exact S2.out, G2.out⟩
      · have HV4 : Hid (v = (p, 0)) := by
          show _ = _
          rw [HV3.out]
          split
          · rfl
          · rw [show s.low = p from by omega]
        go_wp2
        go_ret2
        exact ⟨by rw [HV4.out] <;> rfl, by rw [HS.out]; exact S2.out, G2.out⟩
    · have hn' : (n == 0) = false := by simpa using hn
      have HV3 : Hid (v = (p, 0)) := by show _ = _; rw [HV2.out, if_neg hn]
      clear hn HV2
      go_enter Try.func65, Try.ntmps65
      go_wp2_with (go_at_call 63; refine HB.out.mono ?_; rintro e W2 ⟨rfl, s2, g2⟩; have S2 := Lib.hid s2; have G2 := Lib.hid g2; clear s2 g2)
      go_ret2
      exact ⟨by rw [HV3.out] <;> rfl, by rw [HS.out]; exact S2.out, G2.out⟩
  · have hz' : (z != 0) = true := by simpa using hz
    have HV2 : Hid (v = (0, z)) := by show _ = _; rw [HV.out, if_pos hz]
    clear hz HV
    go_enter Try.func65, Try.ntmps65
    go_wp2_with (go_at_call 63; refine HB.out.mono ?_; rintro e W2 ⟨rfl, s2, g2⟩; have S2 := Lib.hid s2; have G2 := Lib.hid g2; clear s2 g2)
    go_ret2
    exact ⟨by rw [HV2.out] <;> rfl, by rw [HS.out]; exact S2.out, G2.out⟩
end Go.Proofs.Ytibmmonboeifhaa
