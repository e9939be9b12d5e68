/- The reference's tell, Run, Budget, Priority. -/
import Derived.Test.YtibmmonboeifhaaWd
namespace Go.Proofs.Ytibmmonboeifhaa
open Go.RowKit
set_option linter.unusedVariables false

theorem rend_any {W : World} {lo B : Nat} {T b0 : Int} {s : AQ} (h : RS lo B T b0 s W) (hc : 0 < s.chk) : Calls Try.prog 90 #[.pointer (some ⟨B, 0, none⟩)] W (ToR lo B T b0 (endA s) W) := by
  by_cases hl : s.l.length < s.cap
  · exact rend_new h hc hl
  · exact rend_old h hc hl
theorem RS.cells {W : World} {lo B : Nat} {T b0 : Int} {s : AQ} (h : RS lo B T b0 s W) : W.cell? ⟨B, 3, none⟩ = some (.int .i64 s.low) ∧ W.cell? ⟨B, 4, none⟩ = some (.int .i64 s.bud) ∧ W.cell? ⟨B, 6, none⟩ = some (.bool (decide (0 < s.chk))) ∧ (0 < s.chk → W.cell? ⟨B, 8, none⟩ = some (.int .i64 s.ran)) ∧ W.cell? ⟨B, 9, none⟩ = some (.int .i64 s.told) ∧ W.cell? ⟨B, 10, none⟩ = some (.int .i64 s.ran) ∧ (∀ i, W.frozen? ⟨B, i, none⟩ = false) ∧ B < W.heap.size ∧ lo ≤ B ∧ s.ran ≤ s.told ∧ AI T s := by
  obtain ⟨q, hq, h⟩ := h
  exact ⟨h.row.cell 3, h.row.cell 4, h.row.cell 6, fun hc => by rw [← (h.op hc).1]; exact h.row.cell 8, h.row.cell 9, h.row.cell 10, fun i => h.row.frozen i, h.row.lt, h.lo, h.rt, h.ai⟩
theorem RS.told {W : World} {lo B : Nat} {T b0 : Int} {s : AQ} (h : RS lo B T b0 s W) (t : Int) (ht : s.ran ≤ t) : RS lo B T b0 { s with told := t } (W.setCell ⟨B, 9, none⟩ (.int .i64 t)) := by
  obtain ⟨q, hq, h⟩ := h
  have ai := h.ai
  exact ⟨q, hq, h.row.set 9 (.int .i64 t), own_fr2 h.own (Fr.set (S := fun k => k = B) _ _ _ _ rfl) (fun k e e2 => h.ne (by rw [e, e2])), h.ne, h.lo, ⟨ai.per0, ai.per1, ai.cap0, ai.len, ai.bud0, ai.chk0, ai.amt, ai.sum, ai.tot, ai.ran0, ai.ran1⟩, h.op, ht, h.c32⟩
theorem endA_told2 (s : AQ) (t : Int) : endA { s with told := t } = { endA s with told := t } := by
  rw [endA, endA]
  show (if s.l.length < s.cap then _ else _) = _
  split <;> rfl

set_option maxRecDepth 100000 in
set_option maxHeartbeats 2000000 in
theorem rtell_any {W : World} {lo B : Nat} {T b0 : Int} {s : AQ} (h : RS lo B T b0 s W) (now : Int) (ht : s.told ≤ now) : Calls Try.prog 89 #[.pointer (some ⟨B, 0, none⟩), .int .i64 now] W (ToR lo B T b0 (tellA now s) W) := by
  obtain ⟨_, _, _, _, c9, _, ff, hB, hlo, hrt, ai⟩ := h.cells
  have f9 := ff 9
  have r0 := ai.ran0
  have r1 := ai.ran1
  have H1 := Lib.hid (h.told now (by omega))
  have HLO : Hid (lo ≤ B) := hlo
  have HTK : Hid (∀ W s u, RS lo B T b0 s W → Calls Try.prog 99 #[.pointer (some ⟨B, 0, none⟩), .int .i64 u] W (ToR lo B T b0 (takeA u s) W)) := fun W s u h => rtake_any h u
  clear h ff ai hlo hrt ht hB
  go_enter Try.func89, Try.ntmps89
  go_upto_region 1 with (fail)
  have HF1 : Hid (Fr (fun k => lo ≤ k) W (W.setCell ⟨B, 9, none⟩ (.int .i64 now))) := Fr.set _ _ _ _ HLO.out
  clear c9 f9
  generalize World.setCell W _ _ = W1 at H1 HF1 ⊢
  obtain ⟨_, _, c6, c8, _, _, _, _, _, _, _⟩ := H1.out.cells
  by_cases hc : 0 < s.chk
  · have c8' := c8 hc
    have hc' : decide (0 < s.chk) = true := by simpa using hc
    have c6' : W1.cell? ⟨B, 6, none⟩ = some (.bool true) := by rw [← hc']; exact c6
    have HC := Lib.hid hc
    clear c6 c8 hc hc'
    by_cases hn : s.ran + 1 < now
    · have HT : Hid (tellA now s = takeA now (endA (takeA (s.ran + 1) { s with told := now }))) := by
        show _ = _
        have e := endA_told2 (takeA (s.ran + 1) s) now
        rw [tellA_yes ⟨HC.out, hn⟩]
        show _ = takeA now (endA { takeA (s.ran + 1) s with told := now })
        rw [e]; rfl
      go_wp2_with (first
        | (go_at_call 99; refine (HTK.out _ _ _ H1.out).mono ?_; rintro e W2 ⟨⟨v, rfl⟩, s2, g2⟩; have S2 := Lib.hid s2; have G2 := Lib.hid (HF1.out.trans g2); clear s2 g2 H1 c6' c8')
        | (go_at_call 90; refine (rend_any S2.out HC.out).mono ?_; rintro e W3 ⟨⟨v, rfl⟩, s3, g3⟩; have S3 := Lib.hid s3; have G3 := Lib.hid (G2.out.trans g3); clear s3 g3 S2)
        | (go_at_call 99; refine (HTK.out _ _ _ S3.out).mono ?_; rintro e W4 ⟨⟨v, rfl⟩, s4, g4⟩; have S4 := Lib.hid s4; have G4 := Lib.hid (G3.out.trans g4); clear s4 g4 S3))
      go_end0
      exact ⟨⟨_, rfl⟩, by rw [HT.out]; exact S4.out, G4.out⟩
    · have hn' : now ≤ s.ran + 1 := by omega
      have HT : Hid (tellA now s = takeA now { s with told := now }) := by show _ = _; rw [tellA_no (fun e => hn e.2)]; rfl
      clear hn
      go_wp2_with (go_at_call 99; refine (HTK.out _ _ _ H1.out).mono ?_; rintro e W2 ⟨⟨v, rfl⟩, s2, g2⟩; have S2 := Lib.hid s2; have G2 := Lib.hid (HF1.out.trans g2); clear s2 g2 H1)
      go_end0
      exact ⟨⟨_, rfl⟩, by rw [HT.out]; exact S2.out, G2.out⟩
  · have hc' : decide (0 < s.chk) = false := by simpa using hc
    have c6' : W1.cell? ⟨B, 6, none⟩ = some (.bool false) := by rw [← hc']; exact c6
    have HT : Hid (tellA now s = takeA now { s with told := now }) := by show _ = _; rw [tellA_no (fun e => hc e.1)]; rfl
    clear c6 c8 hc hc'
    go_wp2_with (go_at_call 99; refine (HTK.out _ _ _ H1.out).mono ?_; rintro e W2 ⟨⟨v, rfl⟩, s2, g2⟩; have S2 := Lib.hid s2; have G2 := Lib.hid (HF1.out.trans g2); clear s2 g2 H1)
    go_end0
    exact ⟨⟨_, rfl⟩, by rw [HT.out]; exact S2.out, G2.out⟩
end Go.Proofs.Ytibmmonboeifhaa
